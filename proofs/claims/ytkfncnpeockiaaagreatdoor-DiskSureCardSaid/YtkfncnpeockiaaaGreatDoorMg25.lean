/-
  Layer 7, the document's side: Restart. Condition: the rows are of at most ninety thousand entries, the choices lie below all that is made since.
-/
import Derived.Test.YtkfncnpeockiaaaGreatDoorMg23
namespace Go.Proofs.YtkfncnpeockiaaaGreatDoor
open Go.RowKit
variable {w w' : World} {Q : QL} {R T : RS}

/-- The end of Restart: what is sure is seen, nothing waits. -/
theorem res_end {W2 : World} {V2 : Nat → Value} (h : QInv ⟨Q.b, V2⟩ ({ T with seen := T.sure, seenB := T.sureB } : RS) W2) (hs : QStep Q w ⟨Q.b, V2⟩ W2) :
    ∃ Q', QInv Q' { T with seen := T.sure, seenB := T.sureB, waits := [], tells := [], crash := 0, off := false } ((((W2.setCell ⟨Q.b, 4, none⟩ (.slice none 0 0)).setCell ⟨Q.b, 7, none⟩ (.slice none 0 0)).setCell ⟨Q.b, 8, none⟩ (.int .i64 0)).setCell ⟨Q.b, 9, none⟩ (.bool false)) ∧ QStep Q w Q' ((((W2.setCell ⟨Q.b, 4, none⟩ (.slice none 0 0)).setCell ⟨Q.b, 7, none⟩ (.slice none 0 0)).setCell ⟨Q.b, 8, none⟩ (.int .i64 0)).setCell ⟨Q.b, 9, none⟩ (.bool false)) := by
  have h3 := q_put2 (R' := ({ T with seen := T.sure, seenB := T.sureB, waits := [] } : RS)) h 4 (.inl (by decide)) (v1 := .slice none 0 0) (World.ownsRow_nil _ _ _ _) (fun e => by cases e) (fun j hj hne => four_or hj (fun j => j ≠ 4 → eln ({ T with seen := T.sure, seenB := T.sureB, waits := [] } : RS) j = eln ({ T with seen := T.sure, seenB := T.sureB } : RS) j ∧ ecl ({ T with seen := T.sure, seenB := T.sureB, waits := [] } : RS) j = ecl ({ T with seen := T.sure, seenB := T.sureB } : RS) j) (fun _ => ⟨rfl, rfl⟩) (fun _ => ⟨rfl, rfl⟩) (fun _ => ⟨rfl, rfl⟩) (fun _ => ⟨rfl, rfl⟩) (fun e => absurd rfl e) (fun _ => ⟨rfl, rfl⟩) hne) ⟨rfl, rfl, rfl, rfl⟩
  have s3 := qstep_put hs 4 (v1 := .slice none 0 0) (fun g e => by cases e)
  have h4 := q_put2 (R' := ({ T with seen := T.sure, seenB := T.sureB, waits := [], tells := [] } : RS)) h3 7 (.inr rfl) (v1 := .slice none 0 0) (World.ownsRow_nil _ _ _ _) (fun e => by cases e) (fun j hj hne => four_or hj (fun j => j ≠ 7 → eln ({ T with seen := T.sure, seenB := T.sureB, waits := [], tells := [] } : RS) j = eln ({ T with seen := T.sure, seenB := T.sureB, waits := [] } : RS) j ∧ ecl ({ T with seen := T.sure, seenB := T.sureB, waits := [], tells := [] } : RS) j = ecl ({ T with seen := T.sure, seenB := T.sureB, waits := [] } : RS) j) (fun _ => ⟨rfl, rfl⟩) (fun _ => ⟨rfl, rfl⟩) (fun _ => ⟨rfl, rfl⟩) (fun _ => ⟨rfl, rfl⟩) (fun _ => ⟨rfl, rfl⟩) (fun e => absurd rfl e) hne) ⟨rfl, rfl, rfl, rfl⟩
  have s4 := qstep_put s3 7 (v1 := .slice none 0 0) (fun g e => by cases e)
  have h5 := q_num (R' := { T with seen := T.sure, seenB := T.sureB, waits := [], tells := [], crash := 0 }) h4 8 (.int .i64 0) rfl (fun j _ => by unfold eln ecl; split <;> exact ⟨rfl, rfl⟩)
  have h6 := q_num (R' := { T with seen := T.sure, seenB := T.sureB, waits := [], tells := [], crash := 0, off := false }) h5.1 9 (.bool false) rfl (fun j _ => by unfold eln ecl; split <;> exact ⟨rfl, rfl⟩)
  exact ⟨_, h6.1, (s4.trans h5.2).trans h6.2⟩
set_option maxRecDepth 100000 in
set_option maxHeartbeats 4000000 in
theorem qrestart_any (u : Nat → Nat) (a : Option Addr) (n cap : Nat) (x : Nat → Int) (hx : ∀ k, k < n → ∃ g o, a = some ⟨g, o, none⟩ ∧ g < w.heap.size ∧ g ≠ Q.b ∧ w.cell? ⟨g, o + k, none⟩ = some (.int .i64 (x k)) ∧ IntKind.u64.wrap (x k) = (u k : Int)) (hx0 : ∀ k, n ≤ k → u k = 0) (hu : ∀ k, u k < 18446744073709551616)
    (h : QInv Q R w) (h1 : R.waits.length ≤ 90000) (h2 : R.sure.length + R.waits.length ≤ 90000) (h3 : R.sureB.length ≤ 90000) (hok : ∀ c, c ∈ R.waits → c.QOk R.sureB.length) (hsl : ∀ s, s ∈ R.sureB → s.length ≤ 40000) :
    Calls Tryz.prog 35 #[.pointer (some ⟨Q.b, 0, none⟩), .slice a n cap] w fun e w' => e = .returned (.tuple #[]) ∧ ∃ Q', QInv Q' (qrestart u R) w' ∧ QStep Q w Q' w' := by
  obtain ⟨i2, hi2, hz2, hs2, hbb2⟩ := infoQS
  obtain ⟨iE, hiE, hzE, hsE, hbE⟩ := infoQE
  have HR3 := Lib.hid (h.row 3 (.inl (by decide)))
  change Hid (w.ownsRow 0 9 1 (Q.v 3) R.sureB.length (R.sureB.flatMap strC)) at HR3
  have HBQ := Lib.hid h.blk
  have HH := Lib.hid h
  have c3 := blk_cell h.blk 3 (v := Q.v 3) rfl
  have c3a := cell_alloc c3 (.cells #[] 9)
  have HX := Lib.hid hx; have HX0 := Lib.hid hx0; have HU := Lib.hid hu; have H2 := Lib.hid h2; have HOKW := Lib.hid hok; have HSL := Lib.hid hsl
  clear h hx hx0 hu hok hsl h2
  go_enter Tryz.func35, Tryz.ntmps35
  go_wp2_with (first
    | (at_builtin; refine wpList_append_row _ rfl _ _ 43 rfl w.heap.size 9 i2 _ 1 16 Tryz.underlying43 hi2 hz2 hs2 hbb2 rfl (by decide) (.slice (some ⟨w.heap.size, 0, none⟩) 0 0) 0 [] rfl (row_none w 9 1) (Q.v 3) R.sureB.length (R.sureB.flatMap strC) rfl (HR3.out.alloc _) (one_str _) (by unfold maxLen; omega) (by omega) (by simp) ?_; intro v5 w5 hown5 hgrow5 hbk5; rw [Nat.zero_add, List.nil_append] at hown5; obtain ⟨a5, cap5, hv5, -⟩ := row_slice (row_base hown5 (Nat.zero_le _)); subst hv5; have HB5 := Lib.hid (grown_new hgrow5); have hB5 : Blk w5 Q.b 64 _ := (HB5.out.block _ (blk_lt HBQ.out)).trans HBQ.out; have q3 := blk_cell hB5 3 (v := Q.v 3) rfl; have p3 := blk_frozen hB5 3; have HO5 := Lib.hid hown5; clear hown5 hgrow5 hbk5 hB5))
  have HS0 := Lib.hid (mid_start HH.out HB5.out HO5.out)
  clear HO5 HB5 HR3 q3 p3 c3 c3a
  go_loopw [4] (fun t4 wr => ∃ (k : Nat) (V : Nat → Value), k ≤ R.waits.length ∧ t4 = .int .i64 k ∧ Hid (MidI Q w (qsurvN u R.waits R k) wr V)) (fun t4 _ => R.waits.length - (intOf t4).toNat)
  case atStart => exact ⟨0, _, Nat.zero_le _, rfl, HS0⟩
  case round =>
    obtain ⟨k, V, hk, rfl, hI⟩ := hrel
    clear HS0
    have HTB := Lib.hid (qsurvN_bd u R HOKW.out HSL.out k hk)
    have HSTEP := Lib.hid (fun hlt => qsurvN_step u R.waits R k hlt)
    have HEQ := Lib.hid (show k = R.waits.length → qrestart u R = { qsurvN u R.waits R k with seen := (qsurvN u R.waits R k).sure, seenB := (qsurvN u R.waits R k).sureB, waits := [], tells := [], crash := 0, off := false } by rintro rfl; rfl)
    generalize qsurvN u R.waits R k = T at *
    have hr4 : wr.ownsRow 0 99 5 (V 4) R.waits.length (R.waits.flatMap Chg.qc) := by
      have := hI.out.inv.row 4 (.inl (by decide))
      change wr.ownsRow 0 99 5 (V 4) T.waits.length (T.waits.flatMap Chg.qc) at this
      rwa [HTB.out.1] at this
    obtain ⟨a4, cap4, hv4, hc4⟩ := row_slice hr4
    have c4 := blk_cell hI.out.inv.blk 4 (v := .slice a4 R.waits.length cap4) (by rw [← hv4]; rfl)
    have HV4 := Lib.hid hv4
    clear hr4 hv4
    by_cases hlt : k < R.waits.length
    · obtain ⟨g4, rfl, hg4, hcc4⟩ := hc4.resolve_left (by omega)
      have hst0 := HSTEP.out hlt
      have hcok := HOKW.out _ (List.getElem_mem hlt)
      have r : ∀ j u, R.waits[k].qc[j]? = some u → j < 5 → wr.cell? ⟨g4, k * 5 + j, none⟩ = some u := fun j u hu hj => hcc4 (k * 5 + j) u (by rw [flat_at Chg.qc 5 (fun c => by cases c <;> rfl) R.waits k j hlt hj]; exact hu)
      have hltI : (k : Int) < R.waits.length := by omega
      have hn0 : ¬ (k : Int) < 0 := by omega
      generalize R.waits[k] = c at *
      clear hc4 hcc4 HSTEP HEQ
      obtain ⟨uk, huk⟩ : ∃ uk, uk = u k := ⟨_, rfl⟩
      have hul : uk < 18446744073709551616 := by rw [huk]; exact HU.out k
      rw [← huk] at hst0
      by_cases hkn : k < n
      · obtain ⟨gc, oc, rfl, hgc, hgb, hcx, hcw⟩ := HX.out k hkn
        have x9 : wr.cell? ⟨gc, oc + k, none⟩ = some (.int .i64 (x k)) := (World.cell?_of_block (a := ⟨gc, oc + k, none⟩) (hI.out.stp.blk gc hgc hgb)).trans hcx
        rw [← huk] at hcw
        have hknI : (k : Int) < n := by omega
        generalize x k = xk at *
        clear hcx hgc hgb huk
        by_cases h0 : uk % 3 = 0
        · have e1 : (uk : Int).tmod 3 = 0 := by rw [Int.tmod_eq_emod_of_nonneg (by omega)]; omega
          obtain ⟨kd, nm, fi, at_, d, hcc, -, -, -⟩ := qc_lit c
          rw [hcc] at r
          have hst := hst0.trans (qsurv_none h0)
          clear hst0 hcc
          have x9b := cell_alloc x9 (.cells #[.int .i64 kd, .string nm, .int .i64 fi, .int .i64 at_, .string d] 99)
          have r0 := r 0 _ rfl (by decide)
          have r1 := r 1 _ rfl (by decide)
          have r2 := r 2 _ rfl (by decide)
          have r3 := r 3 _ rfl (by decide)
          have r4 := r 4 _ rfl (by decide)
          rw [Nat.add_zero] at r0
          clear r
          have HST := Lib.hid hst
          clear hst
          go_wp2
          have HI9 := Lib.hid (show MidI Q w (qsurvN u R.waits R (k + 1)) (wr.alloc (.cells #[.int .i64 kd, .string nm, .int .i64 fi, .int .i64 at_, .string d] 99)) V by rw [HST.out]; exact mid_below hI.out ((Below.refl _ _).alloc (Nat.le_refl _) _))
          go_roundw
          case rel => exact ⟨k + 1, _, by omega, by go_num, HI9⟩
          case measure => simp [intOf]; omega
        · cases hod : ofDir c with
          | true =>
            obtain ⟨kd, nm, fi, at_, d, hcc, hk1, -, -⟩ := qc_lit c
            rw [hcc] at r
            have HCC := Lib.hid (show c.qc.toArray = #[.int .i64 kd, .string nm, .int .i64 fi, .int .i64 at_, .string d] by rw [hcc])
            have HP := Lib.hid hod
            have k2 : kd < 3 := hk1 hod
            have k1 : decide (kd < 3) = true := decide_eq_true k2
            have k3 : (kd == 3) = false := by simp; omega
            have k4 : ¬ kd = 3 := by omega
            have k5 : decide (kd = 3) = false := decide_eq_false k4
            have hcut : ∀ q, cutC q c = c ∧ noDat c = false := fun q => by cases c <;> first | exact ⟨rfl, rfl⟩ | cases hod
            have hap : qsurv c uk T = qapp c T := by
              by_cases h2 : uk % 3 = 2
              · rw [qsurv_cut h2 (by rw [(hcut _).1]; exact (hcut 0).2), (hcut _).1]
              · exact qsurv_one h0 h2 (hcut 0).2
            have hst := hst0.trans hap
            clear hst0 hcc hcut hap hk1 hod
            have x9b := cell_alloc x9 (.cells #[.int .i64 kd, .string nm, .int .i64 fi, .int .i64 at_, .string d] 99)
            have r0 := r 0 _ rfl (by decide)
            have r1 := r 1 _ rfl (by decide)
            have r2 := r 2 _ rfl (by decide)
            have r3 := r 3 _ rfl (by decide)
            have r4 := r 4 _ rfl (by decide)
            rw [Nat.add_zero] at r0
            clear r
            by_cases h2 : uk % 3 = 2
            · have e1 : (uk : Int).tmod 3 = 2 := by rw [Int.tmod_eq_emod_of_nonneg (by omega)]; omega
              obtain ⟨WB, hWB⟩ : ∃ WB, WB = (wr.alloc (.cells #[.int .i64 kd, .string nm, .int .i64 fi, .int .i64 at_, .string d] 99)) := ⟨_, rfl⟩
              have HXB : Hid (Blk WB wr.heap.size 99 #[.int .i64 kd, .string nm, .int .i64 fi, .int .i64 at_, .string d]) := Lib.hid (by rw [hWB]; exact blk_new wr _ _)
              have hbB : Below wr.heap.size wr WB := by rw [hWB]; exact ((Below.refl _ _).alloc (Nat.le_refl _) _)
              have HB := Lib.hid hbB
              have HMB := Lib.hid (mid_below hI.out hbB)
              have HBB : Hid (Blk WB Q.b 64 (qcells ⟨Q.b, V⟩ T)) := Lib.hid HMB.out.inv.blk
              have HNE := Lib.hid (show wr.heap.size ≠ Q.b from fun e => by have h0 : Q.b < wr.heap.size := blk_lt hI.out.inv.blk; omega)
              have HWB := Lib.hid hWB
              clear hWB hbB
              have HST := Lib.hid (show qsurvN u R.waits R (k + 1) = { T with sure := qDir T.sure c } by rw [hst, qapp, if_pos HP.out])
              have HR1 := Lib.hid (HMB.out.inv.row 1 (.inl (by decide)))
              change Hid (WB.ownsRow 0 104 2 (V 1) T.sure.length (T.sure.flatMap entC)) at HR1
              have c1 : WB.cell? ⟨Q.b, 1, none⟩ = some (V 1) := blk_cell HBB.out 1 rfl
              obtain ⟨x0, x1, x2, x3, x4⟩ := bxs_of HXB.out
              clear hst
              go_upto_region 12 with (fail)
              rw [← HWB.out]
              clear HWB
              have hD := qdir_any (w := WB.drew) (show WB.drew.ownsRow 0 104 2 (V 1) _ _ from HR1.out) (by have := HTB.out.2.2.1; have := H2.out; omega) c HP.out
              rw [HCC.out] at hD
              have HD := Lib.hid hD
              clear hD
              refine wp_region_held_drew (S := fun a => a.cell? ⟨wr.heap.size, 0, none⟩ = some (.int .i64 kd) ∧ a.cell? ⟨wr.heap.size, 1, none⟩ = some (.string nm) ∧ a.cell? ⟨wr.heap.size, 2, none⟩ = some (.int .i64 fi) ∧ a.cell? ⟨wr.heap.size, 3, none⟩ = some (.int .i64 at_) ∧ a.cell? ⟨wr.heap.size, 4, none⟩ = some (.string d)) (by kernel_rfl) (bxs_of (show Blk WB.drew _ _ _ from HXB.out)) (fun hHeld => ?_)
              refine wpAnyH_take (i := 0) (v := (.pointer (some ⟨Q.b, 0, none⟩))) rfl (by kernel_rfl) (by kernel_rfl) (by kernel_rfl) (fun _ _ _ h => h) (Or.inl ⟨by rfl, ?_⟩) hHeld ?_
              · intro w' hSw
                obtain ⟨a0, a1, a2, a3, a4⟩ := hSw
                go_simp
              go_frame
              refine wpAnyH_take (i := 1) (v := (.pointer (some ⟨Q.b, 0, none⟩))) rfl (by kernel_rfl) (by kernel_rfl) (by kernel_rfl) (fun _ _ _ h => h) (Or.inl ⟨by rfl, ?_⟩) hHeld ?_
              · intro w' hSw
                obtain ⟨a0, a1, a2, a3, a4⟩ := hSw
                go_simp
              go_frame
              refine wpAnyH_take (i := 2) (v := (.pointer (some ⟨Q.b, 0, none⟩))) rfl (by kernel_rfl) (by kernel_rfl) (by kernel_rfl) (fun _ _ _ h => h) (Or.inl ⟨by rfl, ?_⟩) hHeld ?_
              · intro w' hSw
                obtain ⟨a0, a1, a2, a3, a4⟩ := hSw
                go_simp
              go_frame
              refine wpAnyH_take (i := 3) (v := (.pointer (some ⟨Q.b, 1, none⟩))) rfl (by kernel_rfl) (by kernel_rfl) (by kernel_rfl) (fun _ _ _ h => h) (Or.inl ⟨by rfl, ?_⟩) hHeld ?_
              · intro w' hSw
                obtain ⟨a0, a1, a2, a3, a4⟩ := hSw
                go_simp
              go_frame
              refine wpAnyH_take (i := 5) (v := (.agg #[.int .i64 kd, .string nm, .int .i64 fi, .int .i64 at_, .string d])) rfl (by kernel_rfl) (by kernel_rfl) (by kernel_rfl) (fun _ _ _ h => h) (Or.inl ⟨by rfl, ?_⟩) hHeld ?_
              · intro w' hSw
                obtain ⟨a0, a1, a2, a3, a4⟩ := hSw
                go_simp
              go_frame
              refine wpAnyH_ready (rs := [4]) (by kernel_rfl) (by simp) ?_
              refine AllReadyH.cons rfl (fun K hK => ?_) AllReadyH.nil
              go_simp
              refine hK.out _ _ hHeld (fun hHeld => ?_)
              clear hK K
              refine wpAnyH_ready (rs := [6]) (by kernel_rfl) (by simp) ?_
              refine AllReadyH.cons rfl (fun K hK => ?_) AllReadyH.nil
              go_simp
              (with_reducible refine HD.out.mono ?_)
              rintro e w2 ⟨v2, rfl, hr2, hb2⟩
              obtain ⟨a2, cap2, hv2, -⟩ := row_slice (row_base hr2 (Nat.zero_le _))
              subst hv2
              have hB2 : Blk w2 Q.b 64 _ := (hb2.block _ (blk_lt (show Blk WB.drew _ _ _ from HBB.out))).trans HBB.out
              have q1 := blk_cell hB2 1 (v := V 1) rfl
              have p1 := blk_frozen hB2 1
              have HX2 : Hid (Blk w2 wr.heap.size 99 #[.int .i64 kd, .string nm, .int .i64 fi, .int .i64 at_, .string d]) := Lib.hid ((hb2.block _ (blk_lt (show Blk WB.drew _ _ _ from HXB.out))).trans HXB.out)
              have HR2 := Lib.hid hr2; have HB2 := Lib.hid hb2
              clear hr2 hb2 hB2
              go_simp
              refine hK.out _ _ (bxs_of HX2.out) (fun hHeld => ?_)
              clear hK K
              refine wpAnyH_take (i := 7) (v := (.pointer (some ⟨Q.b, 0, none⟩))) rfl (by kernel_rfl) (by kernel_rfl) (by kernel_rfl) (fun _ _ _ h => h) (Or.inl ⟨by rfl, ?_⟩) hHeld ?_
              · intro w' hSw
                obtain ⟨a0, a1, a2, a3, a4⟩ := hSw
                go_simp
              go_frame
              refine wpAnyH_take (i := 8) (v := (.pointer (some ⟨Q.b, 1, none⟩))) rfl (by kernel_rfl) (by kernel_rfl) (by kernel_rfl) (fun _ _ _ h => h) (Or.inl ⟨by rfl, ?_⟩) hHeld ?_
              · intro w' hSw
                obtain ⟨a0, a1, a2, a3, a4⟩ := hSw
                go_simp
              go_frame
              refine wpAnyH_ready (rs := [9]) (by kernel_rfl) (by simp) ?_
              refine AllReadyH.cons rfl (fun K hK => ?_) AllReadyH.nil
              go_simp
              refine hK.out _ _ (bxs_of ((setCell_keep _ _ _ _ _ HNE.out).trans HX2.out)) (fun hHeld => ?_)
              clear hK K
              refine wpAnyH_done (by kernel_rfl) ?_ _
              go_wp2
              have hi9 := mid_dir (mid_below HMB.out (Same.refl WB).drew.below) (qDir T.sure c) HB2.out HR2.out
              have HI9 := Lib.hid (show MidI Q w (qsurvN u R.waits R (k + 1)) _ _ by rw [HST.out]; exact hi9)
              clear hi9
              go_roundw
              case rel => exact ⟨k + 1, _, by omega, by go_num, HI9⟩
              case measure => simp [intOf]; omega
            · have e1 : (uk : Int).tmod 3 = 1 := by rw [Int.tmod_eq_emod_of_nonneg (by omega)]; omega
              obtain ⟨WB, hWB⟩ : ∃ WB, WB = (wr.alloc (.cells #[.int .i64 kd, .string nm, .int .i64 fi, .int .i64 at_, .string d] 99)) := ⟨_, rfl⟩
              have HXB : Hid (Blk WB wr.heap.size 99 #[.int .i64 kd, .string nm, .int .i64 fi, .int .i64 at_, .string d]) := Lib.hid (by rw [hWB]; exact blk_new wr _ _)
              have hbB : Below wr.heap.size wr WB := by rw [hWB]; exact ((Below.refl _ _).alloc (Nat.le_refl _) _)
              have HB := Lib.hid hbB
              have HMB := Lib.hid (mid_below hI.out hbB)
              have HBB : Hid (Blk WB Q.b 64 (qcells ⟨Q.b, V⟩ T)) := Lib.hid HMB.out.inv.blk
              have HNE := Lib.hid (show wr.heap.size ≠ Q.b from fun e => by have h0 : Q.b < wr.heap.size := blk_lt hI.out.inv.blk; omega)
              have HWB := Lib.hid hWB
              clear hWB hbB
              have HST := Lib.hid (show qsurvN u R.waits R (k + 1) = { T with sure := qDir T.sure c } by rw [hst, qapp, if_pos HP.out])
              have HR1 := Lib.hid (HMB.out.inv.row 1 (.inl (by decide)))
              change Hid (WB.ownsRow 0 104 2 (V 1) T.sure.length (T.sure.flatMap entC)) at HR1
              have c1 : WB.cell? ⟨Q.b, 1, none⟩ = some (V 1) := blk_cell HBB.out 1 rfl
              obtain ⟨x0, x1, x2, x3, x4⟩ := bxs_of HXB.out
              clear hst
              go_upto_region 12 with (fail)
              rw [← HWB.out]
              clear HWB
              have hD := qdir_any (w := WB.drew) (show WB.drew.ownsRow 0 104 2 (V 1) _ _ from HR1.out) (by have := HTB.out.2.2.1; have := H2.out; omega) c HP.out
              rw [HCC.out] at hD
              have HD := Lib.hid hD
              clear hD
              refine wp_region_held_drew (S := fun a => a.cell? ⟨wr.heap.size, 0, none⟩ = some (.int .i64 kd) ∧ a.cell? ⟨wr.heap.size, 1, none⟩ = some (.string nm) ∧ a.cell? ⟨wr.heap.size, 2, none⟩ = some (.int .i64 fi) ∧ a.cell? ⟨wr.heap.size, 3, none⟩ = some (.int .i64 at_) ∧ a.cell? ⟨wr.heap.size, 4, none⟩ = some (.string d)) (by kernel_rfl) (bxs_of (show Blk WB.drew _ _ _ from HXB.out)) (fun hHeld => ?_)
              refine wpAnyH_take (i := 0) (v := (.pointer (some ⟨Q.b, 0, none⟩))) rfl (by kernel_rfl) (by kernel_rfl) (by kernel_rfl) (fun _ _ _ h => h) (Or.inl ⟨by rfl, ?_⟩) hHeld ?_
              · intro w' hSw
                obtain ⟨a0, a1, a2, a3, a4⟩ := hSw
                go_simp
              go_frame
              refine wpAnyH_take (i := 1) (v := (.pointer (some ⟨Q.b, 0, none⟩))) rfl (by kernel_rfl) (by kernel_rfl) (by kernel_rfl) (fun _ _ _ h => h) (Or.inl ⟨by rfl, ?_⟩) hHeld ?_
              · intro w' hSw
                obtain ⟨a0, a1, a2, a3, a4⟩ := hSw
                go_simp
              go_frame
              refine wpAnyH_take (i := 2) (v := (.pointer (some ⟨Q.b, 0, none⟩))) rfl (by kernel_rfl) (by kernel_rfl) (by kernel_rfl) (fun _ _ _ h => h) (Or.inl ⟨by rfl, ?_⟩) hHeld ?_
              · intro w' hSw
                obtain ⟨a0, a1, a2, a3, a4⟩ := hSw
                go_simp
              go_frame
              refine wpAnyH_take (i := 3) (v := (.pointer (some ⟨Q.b, 1, none⟩))) rfl (by kernel_rfl) (by kernel_rfl) (by kernel_rfl) (fun _ _ _ h => h) (Or.inl ⟨by rfl, ?_⟩) hHeld ?_
              · intro w' hSw
                obtain ⟨a0, a1, a2, a3, a4⟩ := hSw
                go_simp
              go_frame
              refine wpAnyH_take (i := 5) (v := (.agg #[.int .i64 kd, .string nm, .int .i64 fi, .int .i64 at_, .string d])) rfl (by kernel_rfl) (by kernel_rfl) (by kernel_rfl) (fun _ _ _ h => h) (Or.inl ⟨by rfl, ?_⟩) hHeld ?_
              · intro w' hSw
                obtain ⟨a0, a1, a2, a3, a4⟩ := hSw
                go_simp
              go_frame
              refine wpAnyH_ready (rs := [4]) (by kernel_rfl) (by simp) ?_
              refine AllReadyH.cons rfl (fun K hK => ?_) AllReadyH.nil
              go_simp
              refine hK.out _ _ hHeld (fun hHeld => ?_)
              clear hK K
              refine wpAnyH_ready (rs := [6]) (by kernel_rfl) (by simp) ?_
              refine AllReadyH.cons rfl (fun K hK => ?_) AllReadyH.nil
              go_simp
              (with_reducible refine HD.out.mono ?_)
              rintro e w2 ⟨v2, rfl, hr2, hb2⟩
              obtain ⟨a2, cap2, hv2, -⟩ := row_slice (row_base hr2 (Nat.zero_le _))
              subst hv2
              have hB2 : Blk w2 Q.b 64 _ := (hb2.block _ (blk_lt (show Blk WB.drew _ _ _ from HBB.out))).trans HBB.out
              have q1 := blk_cell hB2 1 (v := V 1) rfl
              have p1 := blk_frozen hB2 1
              have HX2 : Hid (Blk w2 wr.heap.size 99 #[.int .i64 kd, .string nm, .int .i64 fi, .int .i64 at_, .string d]) := Lib.hid ((hb2.block _ (blk_lt (show Blk WB.drew _ _ _ from HXB.out))).trans HXB.out)
              have HR2 := Lib.hid hr2; have HB2 := Lib.hid hb2
              clear hr2 hb2 hB2
              go_simp
              refine hK.out _ _ (bxs_of HX2.out) (fun hHeld => ?_)
              clear hK K
              refine wpAnyH_take (i := 7) (v := (.pointer (some ⟨Q.b, 0, none⟩))) rfl (by kernel_rfl) (by kernel_rfl) (by kernel_rfl) (fun _ _ _ h => h) (Or.inl ⟨by rfl, ?_⟩) hHeld ?_
              · intro w' hSw
                obtain ⟨a0, a1, a2, a3, a4⟩ := hSw
                go_simp
              go_frame
              refine wpAnyH_take (i := 8) (v := (.pointer (some ⟨Q.b, 1, none⟩))) rfl (by kernel_rfl) (by kernel_rfl) (by kernel_rfl) (fun _ _ _ h => h) (Or.inl ⟨by rfl, ?_⟩) hHeld ?_
              · intro w' hSw
                obtain ⟨a0, a1, a2, a3, a4⟩ := hSw
                go_simp
              go_frame
              refine wpAnyH_ready (rs := [9]) (by kernel_rfl) (by simp) ?_
              refine AllReadyH.cons rfl (fun K hK => ?_) AllReadyH.nil
              go_simp
              refine hK.out _ _ (bxs_of ((setCell_keep _ _ _ _ _ HNE.out).trans HX2.out)) (fun hHeld => ?_)
              clear hK K
              refine wpAnyH_done (by kernel_rfl) ?_ _
              go_wp2
              have hi9 := mid_dir (mid_below HMB.out (Same.refl WB).drew.below) (qDir T.sure c) HB2.out HR2.out
              have HI9 := Lib.hid (show MidI Q w (qsurvN u R.waits R (k + 1)) _ _ by rw [HST.out]; exact hi9)
              clear hi9
              go_roundw
              case rel => exact ⟨k + 1, _, by omega, by go_num, HI9⟩
              case measure => simp [intOf]; omega
          | false =>
            cases c with
            | create _ _ => cases hod
            | remove _ => cases hod
            | trunc j z =>
              rw [show (Chg.trunc j z).qc = [.int .i64 4, .string ⟨#[]⟩, .int .i64 (j : Int), .int .i64 (z : Int), .string ⟨#[]⟩] from rfl] at r
              obtain ⟨nm, hnm⟩ : ∃ nm : ByteArray, nm = ⟨#[]⟩ := ⟨_, rfl⟩
              obtain ⟨d, hd⟩ : ∃ d : ByteArray, d = ⟨#[]⟩ := ⟨_, rfl⟩
              obtain ⟨at_, hat⟩ : ∃ at_ : Int, at_ = z := ⟨_, rfl⟩
              rw [← hat] at r
              have HCC := Lib.hid (show (Chg.trunc j z).qc.toArray = #[.int .i64 4, .string nm, .int .i64 (j : Int), .int .i64 at_, .string d] by rw [hnm, hd, hat]; rfl)
              have r' : ∀ i u, ([.int .i64 4, .string nm, .int .i64 (j : Int), .int .i64 at_, .string d] : List Value)[i]? = some u → i < 5 → wr.cell? ⟨g4, k * 5 + i, none⟩ = some u := by rw [hnm, hd]; exact r
              clear r
              have r := r'
              clear r'
              have HOK := Lib.hid hcok
              have hjl : j < R.sureB.length := hcok.1
              have hap : qsurv (.trunc j z) uk T = qapp (.trunc j z) T := by
                by_cases h2 : uk % 3 = 2
                · exact qsurv_cut h2 rfl
                · exact qsurv_one h0 h2 rfl
              have hst := hst0.trans hap
              clear hst0 hap hcok hod hnm hd hat
              have x9b := cell_alloc x9 (.cells #[.int .i64 4, .string nm, .int .i64 (j : Int), .int .i64 at_, .string d] 99)
              have r0 := r 0 _ rfl (by decide)
              have r1 := r 1 _ rfl (by decide)
              have r2 := r 2 _ rfl (by decide)
              have r3 := r 3 _ rfl (by decide)
              have r4 := r 4 _ rfl (by decide)
              rw [Nat.add_zero] at r0
              clear r
              by_cases h2 : uk % 3 = 2
              · have e1 : (uk : Int).tmod 3 = 2 := by rw [Int.tmod_eq_emod_of_nonneg (by omega)]; omega
                obtain ⟨WB, hWB⟩ : ∃ WB, WB = (wr.alloc (.cells #[.int .i64 4, .string nm, .int .i64 (j : Int), .int .i64 at_, .string d] 99)) := ⟨_, rfl⟩
                have HXB : Hid (Blk WB wr.heap.size 99 #[.int .i64 4, .string nm, .int .i64 (j : Int), .int .i64 at_, .string d]) := Lib.hid (by rw [hWB]; exact blk_new wr _ _)
                have hbB : Below wr.heap.size wr WB := by rw [hWB]; exact ((Below.refl _ _).alloc (Nat.le_refl _) _)
                have HB := Lib.hid hbB
                have HMB := Lib.hid (mid_below hI.out hbB)
                have HBB : Hid (Blk WB Q.b 64 (qcells ⟨Q.b, V⟩ T)) := Lib.hid HMB.out.inv.blk
                have HNE := Lib.hid (show wr.heap.size ≠ Q.b from fun e => by have h0 : Q.b < wr.heap.size := blk_lt hI.out.inv.blk; omega)
                have HWB := Lib.hid hWB
                clear hWB hbB
                obtain ⟨sv, hsv⟩ : ∃ sv, sv = T.sureB.getD j [] := ⟨_, rfl⟩
                have HST := Lib.hid (show qsurvN u R.waits R (k + 1) = { T with sureB := T.sureB.set j (qByt sv (Chg.trunc j z)) } by rw [hst, hsv]; rfl)
                have hle : sv.length ≤ 40000 := by rw [hsv]; exact getD_le HTB.out.2.2.2 j
                have hlb : T.sureB.length = R.sureB.length := HTB.out.2.1
                have hr3 := HMB.out.inv.row 3 (.inl (by decide))
                change WB.ownsRow 0 9 1 (V 3) T.sureB.length (T.sureB.flatMap strC) at hr3
                obtain ⟨a3, cap3, hv3, hc3⟩ := row_slice hr3
                obtain ⟨g3, rfl, hg3, -⟩ := hc3.resolve_left (by omega)
                rw [hlb] at hv3 hr3
                have HV3 := Lib.hid hv3
                rw [hv3] at hr3
                have HR3 := Lib.hid hr3
                have HI3 := Lib.hid (show (T.sureB.flatMap strC)[j]? = some (.string (bz sv)) by rw [hsv]; exact str_at _ j (by omega))
                have HN3 := Lib.hid (show wr.heap.size ≠ g3 ∧ Q.b ≠ g3 from ⟨fun e => by have h0 : g3 < wr.heap.size := hI.out.inv.lt (.inr ⟨3, .inl (by decide), show (V 3).ownBlock = some g3 by rw [hv3]; rfl⟩); omega, fun e => hI.out.inv.ne 3 (.inl (by decide)) (show (V 3).ownBlock = some Q.b by rw [hv3, e]; rfl)⟩)
                have c3 : WB.cell? ⟨Q.b, 3, none⟩ = some (.slice (some ⟨g3, 0, none⟩) R.sureB.length cap3) := blk_cell HBB.out 3 (by rw [← hv3]; rfl)
                have HLB := Lib.hid hlb
                obtain ⟨z5, -⟩ := row6 HR3.out (Below.refl _ _) HI3.out
                obtain ⟨x0, x1, x2, x3, x4⟩ := bxs_of HXB.out
                have hjI : (j : Int) < R.sureB.length := by omega
                have hj0 : ¬ (j : Int) < 0 := by omega
                clear hr3 hc3 hg3 hv3 hlb hsv hst
                go_upto_region 9 with (fail)
                rw [← HWB.out]
                clear HWB
                have hD := qbytes_any (w := WB.drew) (Chg.trunc j z) rfl HOK.out sv (by omega)
                rw [HCC.out] at hD
                have HD := Lib.hid hD
                clear hD
                refine wp_region_held_drew (S := fun a => a.cell? ⟨wr.heap.size, 0, none⟩ = some (.int .i64 4) ∧ a.cell? ⟨wr.heap.size, 1, none⟩ = some (.string nm) ∧ a.cell? ⟨wr.heap.size, 2, none⟩ = some (.int .i64 (j : Int)) ∧ a.cell? ⟨wr.heap.size, 3, none⟩ = some (.int .i64 at_) ∧ a.cell? ⟨wr.heap.size, 4, none⟩ = some (.string d) ∧ a.cell? ⟨Q.b, 3, none⟩ = some (.slice (some ⟨g3, 0, none⟩) R.sureB.length cap3)) (by kernel_rfl) ⟨x0, x1, x2, x3, x4, c3⟩ (fun hHeld => ?_)
                refine wpAnyH_take (i := 0) (v := (.pointer (some ⟨Q.b, 0, none⟩))) rfl (by kernel_rfl) (by kernel_rfl) (by kernel_rfl) (fun _ _ _ h => h) (Or.inl ⟨by rfl, ?_⟩) hHeld ?_
                · intro w' hSw
                  obtain ⟨a0, a1, a2, a3, a4, a5⟩ := hSw
                  go_simp
                go_frame
                refine wpAnyH_take (i := 1) (v := (.pointer (some ⟨Q.b, 0, none⟩))) rfl (by kernel_rfl) (by kernel_rfl) (by kernel_rfl) (fun _ _ _ h => h) (Or.inl ⟨by rfl, ?_⟩) hHeld ?_
                · intro w' hSw
                  obtain ⟨a0, a1, a2, a3, a4, a5⟩ := hSw
                  go_simp
                go_frame
                refine wpAnyH_take (i := 2) (v := (.pointer (some ⟨Q.b, 3, none⟩))) rfl (by kernel_rfl) (by kernel_rfl) (by kernel_rfl) (fun _ _ _ h => h) (Or.inl ⟨by rfl, ?_⟩) hHeld ?_
                · intro w' hSw
                  obtain ⟨a0, a1, a2, a3, a4, a5⟩ := hSw
                  go_simp
                go_frame
                refine wpAnyH_take (i := 3) (v := (.slice (some ⟨g3, 0, none⟩) R.sureB.length cap3)) rfl (by kernel_rfl) (by kernel_rfl) (by kernel_rfl) (fun _ _ _ h => h) (Or.inl ⟨by rfl, ?_⟩) hHeld ?_
                · intro w' hSw
                  obtain ⟨a0, a1, a2, a3, a4, a5⟩ := hSw
                  go_simp
                go_frame
                refine wpAnyH_take (i := 4) (v := (.pointer (some ⟨wr.heap.size, 2, none⟩))) rfl (by kernel_rfl) (by kernel_rfl) (by kernel_rfl) (fun _ _ _ h => h) (Or.inl ⟨by rfl, ?_⟩) hHeld ?_
                · intro w' hSw
                  obtain ⟨a0, a1, a2, a3, a4, a5⟩ := hSw
                  go_simp
                go_frame
                refine wpAnyH_take (i := 5) (v := (.int .i64 (j : Int))) rfl (by kernel_rfl) (by kernel_rfl) (by kernel_rfl) (fun _ _ _ h => h) (Or.inl ⟨by rfl, ?_⟩) hHeld ?_
                · intro w' hSw
                  obtain ⟨a0, a1, a2, a3, a4, a5⟩ := hSw
                  go_simp
                go_frame
                refine wpAnyH_take (i := 6) (v := (.pointer (some ⟨Q.b, 0, none⟩))) rfl (by kernel_rfl) (by kernel_rfl) (by kernel_rfl) (fun _ _ _ h => h) (Or.inl ⟨by rfl, ?_⟩) hHeld ?_
                · intro w' hSw
                  obtain ⟨a0, a1, a2, a3, a4, a5⟩ := hSw
                  go_simp
                go_frame
                refine wpAnyH_take (i := 7) (v := (.pointer (some ⟨Q.b, 0, none⟩))) rfl (by kernel_rfl) (by kernel_rfl) (by kernel_rfl) (fun _ _ _ h => h) (Or.inl ⟨by rfl, ?_⟩) hHeld ?_
                · intro w' hSw
                  obtain ⟨a0, a1, a2, a3, a4, a5⟩ := hSw
                  go_simp
                go_frame
                refine wpAnyH_take (i := 8) (v := (.pointer (some ⟨Q.b, 3, none⟩))) rfl (by kernel_rfl) (by kernel_rfl) (by kernel_rfl) (fun _ _ _ h => h) (Or.inl ⟨by rfl, ?_⟩) hHeld ?_
                · intro w' hSw
                  obtain ⟨a0, a1, a2, a3, a4, a5⟩ := hSw
                  go_simp
                go_frame
                refine wpAnyH_take (i := 9) (v := (.slice (some ⟨g3, 0, none⟩) R.sureB.length cap3)) rfl (by kernel_rfl) (by kernel_rfl) (by kernel_rfl) (fun _ _ _ h => h) (Or.inl ⟨by rfl, ?_⟩) hHeld ?_
                · intro w' hSw
                  obtain ⟨a0, a1, a2, a3, a4, a5⟩ := hSw
                  go_simp
                go_frame
                refine wpAnyH_take (i := 10) (v := (.pointer (some ⟨wr.heap.size, 2, none⟩))) rfl (by kernel_rfl) (by kernel_rfl) (by kernel_rfl) (fun _ _ _ h => h) (Or.inl ⟨by rfl, ?_⟩) hHeld ?_
                · intro w' hSw
                  obtain ⟨a0, a1, a2, a3, a4, a5⟩ := hSw
                  go_simp
                go_frame
                refine wpAnyH_take (i := 11) (v := (.int .i64 (j : Int))) rfl (by kernel_rfl) (by kernel_rfl) (by kernel_rfl) (fun _ _ _ h => h) (Or.inl ⟨by rfl, ?_⟩) hHeld ?_
                · intro w' hSw
                  obtain ⟨a0, a1, a2, a3, a4, a5⟩ := hSw
                  go_simp
                go_frame
                refine wpAnyH_take (i := 12) (v := (.pointer (some ⟨g3, j, none⟩))) rfl (by kernel_rfl) (by kernel_rfl) (by kernel_rfl) (fun _ _ _ h => h) (Or.inl ⟨by rfl, ?_⟩) hHeld ?_
                · intro w' hSw
                  obtain ⟨a0, a1, a2, a3, a4, a5⟩ := hSw
                  go_simp
                go_frame
                refine wpAnyH_take (i := 14) (v := (.agg #[.int .i64 4, .string nm, .int .i64 (j : Int), .int .i64 at_, .string d])) rfl (by kernel_rfl) (by kernel_rfl) (by kernel_rfl) (fun _ _ _ h => h) (Or.inl ⟨by rfl, ?_⟩) hHeld ?_
                · intro w' hSw
                  obtain ⟨a0, a1, a2, a3, a4, a5⟩ := hSw
                  go_simp
                go_frame
                refine wpAnyH_ready (rs := [13]) (by kernel_rfl) (by simp) ?_
                refine AllReadyH.cons rfl (fun K hK => ?_) AllReadyH.nil
                go_simp
                refine hK.out _ _ hHeld (fun hHeld => ?_)
                clear hK K
                refine wpAnyH_ready (rs := [15]) (by kernel_rfl) (by simp) ?_
                refine AllReadyH.cons rfl (fun K hK => ?_) AllReadyH.nil
                go_simp
                (with_reducible refine HD.out.mono ?_)
                rintro e w6 ⟨rfl, hb6⟩
                have q6 := row6 (show WB.drew.ownsRow _ _ _ _ _ _ from HR3.out) hb6 HI3.out
                have p6 := q6.2
                have HX6 : Hid (Blk w6 wr.heap.size 99 #[.int .i64 4, .string nm, .int .i64 (j : Int), .int .i64 at_, .string d]) := Lib.hid ((hb6.block _ (blk_lt (show Blk WB.drew _ _ _ from HXB.out))).trans HXB.out)
                have HC6 : Hid (w6.cell? ⟨Q.b, 3, none⟩ = some (.slice (some ⟨g3, 0, none⟩) R.sureB.length cap3)) := Lib.hid ((hb6.cell (p := ⟨Q.b, 3, none⟩) (blk_lt HBB.out)).trans c3)
                have HB6 := Lib.hid hb6
                obtain ⟨y0, y1, y2, y3, y4⟩ := bxs_of HX6.out
                replace q6 := q6.1
                clear hb6
                go_simp
                refine hK.out _ _ ⟨y0, y1, y2, y3, y4, HC6.out⟩ (fun hHeld => ?_)
                clear hK K
                refine wpAnyH_take (i := 16) (v := (.pointer (some ⟨g3, j, none⟩))) rfl (by kernel_rfl) (by kernel_rfl) (by kernel_rfl) (fun _ _ _ h => h) (Or.inl ⟨by rfl, ?_⟩) hHeld ?_
                · intro w' hSw
                  obtain ⟨a0, a1, a2, a3, a4, a5⟩ := hSw
                  go_simp
                go_frame
                refine wpAnyH_ready (rs := [17]) (by kernel_rfl) (by simp) ?_
                refine AllReadyH.cons rfl (fun K hK => ?_) AllReadyH.nil
                go_simp
                refine hK.out _ _ (cell6_set3 HN3.out.1 HN3.out.2 ⟨y0, y1, y2, y3, y4, HC6.out⟩ _ _) (fun hHeld => ?_)
                clear hK K
                refine wpAnyH_done (by kernel_rfl) ?_ _
                go_wp2
                have hi9 := mid_file (mid_below HMB.out ((Same.refl WB).drew.below.trans HB6.out)) HLB.out.symm HV3.out j (qByt sv (Chg.trunc j z))
                have HI9 := Lib.hid (show MidI Q w (qsurvN u R.waits R (k + 1)) _ V by rw [HST.out]; exact hi9)
                clear hi9
                go_roundw
                case rel => exact ⟨k + 1, _, by omega, by go_num, HI9⟩
                case measure => simp [intOf]; omega
              · have e1 : (uk : Int).tmod 3 = 1 := by rw [Int.tmod_eq_emod_of_nonneg (by omega)]; omega
                obtain ⟨WB, hWB⟩ : ∃ WB, WB = (wr.alloc (.cells #[.int .i64 4, .string nm, .int .i64 (j : Int), .int .i64 at_, .string d] 99)) := ⟨_, rfl⟩
                have HXB : Hid (Blk WB wr.heap.size 99 #[.int .i64 4, .string nm, .int .i64 (j : Int), .int .i64 at_, .string d]) := Lib.hid (by rw [hWB]; exact blk_new wr _ _)
                have hbB : Below wr.heap.size wr WB := by rw [hWB]; exact ((Below.refl _ _).alloc (Nat.le_refl _) _)
                have HB := Lib.hid hbB
                have HMB := Lib.hid (mid_below hI.out hbB)
                have HBB : Hid (Blk WB Q.b 64 (qcells ⟨Q.b, V⟩ T)) := Lib.hid HMB.out.inv.blk
                have HNE := Lib.hid (show wr.heap.size ≠ Q.b from fun e => by have h0 : Q.b < wr.heap.size := blk_lt hI.out.inv.blk; omega)
                have HWB := Lib.hid hWB
                clear hWB hbB
                obtain ⟨sv, hsv⟩ : ∃ sv, sv = T.sureB.getD j [] := ⟨_, rfl⟩
                have HST := Lib.hid (show qsurvN u R.waits R (k + 1) = { T with sureB := T.sureB.set j (qByt sv (Chg.trunc j z)) } by rw [hst, hsv]; rfl)
                have hle : sv.length ≤ 40000 := by rw [hsv]; exact getD_le HTB.out.2.2.2 j
                have hlb : T.sureB.length = R.sureB.length := HTB.out.2.1
                have hr3 := HMB.out.inv.row 3 (.inl (by decide))
                change WB.ownsRow 0 9 1 (V 3) T.sureB.length (T.sureB.flatMap strC) at hr3
                obtain ⟨a3, cap3, hv3, hc3⟩ := row_slice hr3
                obtain ⟨g3, rfl, hg3, -⟩ := hc3.resolve_left (by omega)
                rw [hlb] at hv3 hr3
                have HV3 := Lib.hid hv3
                rw [hv3] at hr3
                have HR3 := Lib.hid hr3
                have HI3 := Lib.hid (show (T.sureB.flatMap strC)[j]? = some (.string (bz sv)) by rw [hsv]; exact str_at _ j (by omega))
                have HN3 := Lib.hid (show wr.heap.size ≠ g3 ∧ Q.b ≠ g3 from ⟨fun e => by have h0 : g3 < wr.heap.size := hI.out.inv.lt (.inr ⟨3, .inl (by decide), show (V 3).ownBlock = some g3 by rw [hv3]; rfl⟩); omega, fun e => hI.out.inv.ne 3 (.inl (by decide)) (show (V 3).ownBlock = some Q.b by rw [hv3, e]; rfl)⟩)
                have c3 : WB.cell? ⟨Q.b, 3, none⟩ = some (.slice (some ⟨g3, 0, none⟩) R.sureB.length cap3) := blk_cell HBB.out 3 (by rw [← hv3]; rfl)
                have HLB := Lib.hid hlb
                obtain ⟨z5, -⟩ := row6 HR3.out (Below.refl _ _) HI3.out
                obtain ⟨x0, x1, x2, x3, x4⟩ := bxs_of HXB.out
                have hjI : (j : Int) < R.sureB.length := by omega
                have hj0 : ¬ (j : Int) < 0 := by omega
                clear hr3 hc3 hg3 hv3 hlb hsv hst
                go_upto_region 9 with (fail)
                rw [← HWB.out]
                clear HWB
                have hD := qbytes_any (w := WB.drew) (Chg.trunc j z) rfl HOK.out sv (by omega)
                rw [HCC.out] at hD
                have HD := Lib.hid hD
                clear hD
                refine wp_region_held_drew (S := fun a => a.cell? ⟨wr.heap.size, 0, none⟩ = some (.int .i64 4) ∧ a.cell? ⟨wr.heap.size, 1, none⟩ = some (.string nm) ∧ a.cell? ⟨wr.heap.size, 2, none⟩ = some (.int .i64 (j : Int)) ∧ a.cell? ⟨wr.heap.size, 3, none⟩ = some (.int .i64 at_) ∧ a.cell? ⟨wr.heap.size, 4, none⟩ = some (.string d) ∧ a.cell? ⟨Q.b, 3, none⟩ = some (.slice (some ⟨g3, 0, none⟩) R.sureB.length cap3)) (by kernel_rfl) ⟨x0, x1, x2, x3, x4, c3⟩ (fun hHeld => ?_)
                refine wpAnyH_take (i := 0) (v := (.pointer (some ⟨Q.b, 0, none⟩))) rfl (by kernel_rfl) (by kernel_rfl) (by kernel_rfl) (fun _ _ _ h => h) (Or.inl ⟨by rfl, ?_⟩) hHeld ?_
                · intro w' hSw
                  obtain ⟨a0, a1, a2, a3, a4, a5⟩ := hSw
                  go_simp
                go_frame
                refine wpAnyH_take (i := 1) (v := (.pointer (some ⟨Q.b, 0, none⟩))) rfl (by kernel_rfl) (by kernel_rfl) (by kernel_rfl) (fun _ _ _ h => h) (Or.inl ⟨by rfl, ?_⟩) hHeld ?_
                · intro w' hSw
                  obtain ⟨a0, a1, a2, a3, a4, a5⟩ := hSw
                  go_simp
                go_frame
                refine wpAnyH_take (i := 2) (v := (.pointer (some ⟨Q.b, 3, none⟩))) rfl (by kernel_rfl) (by kernel_rfl) (by kernel_rfl) (fun _ _ _ h => h) (Or.inl ⟨by rfl, ?_⟩) hHeld ?_
                · intro w' hSw
                  obtain ⟨a0, a1, a2, a3, a4, a5⟩ := hSw
                  go_simp
                go_frame
                refine wpAnyH_take (i := 3) (v := (.slice (some ⟨g3, 0, none⟩) R.sureB.length cap3)) rfl (by kernel_rfl) (by kernel_rfl) (by kernel_rfl) (fun _ _ _ h => h) (Or.inl ⟨by rfl, ?_⟩) hHeld ?_
                · intro w' hSw
                  obtain ⟨a0, a1, a2, a3, a4, a5⟩ := hSw
                  go_simp
                go_frame
                refine wpAnyH_take (i := 4) (v := (.pointer (some ⟨wr.heap.size, 2, none⟩))) rfl (by kernel_rfl) (by kernel_rfl) (by kernel_rfl) (fun _ _ _ h => h) (Or.inl ⟨by rfl, ?_⟩) hHeld ?_
                · intro w' hSw
                  obtain ⟨a0, a1, a2, a3, a4, a5⟩ := hSw
                  go_simp
                go_frame
                refine wpAnyH_take (i := 5) (v := (.int .i64 (j : Int))) rfl (by kernel_rfl) (by kernel_rfl) (by kernel_rfl) (fun _ _ _ h => h) (Or.inl ⟨by rfl, ?_⟩) hHeld ?_
                · intro w' hSw
                  obtain ⟨a0, a1, a2, a3, a4, a5⟩ := hSw
                  go_simp
                go_frame
                refine wpAnyH_take (i := 6) (v := (.pointer (some ⟨Q.b, 0, none⟩))) rfl (by kernel_rfl) (by kernel_rfl) (by kernel_rfl) (fun _ _ _ h => h) (Or.inl ⟨by rfl, ?_⟩) hHeld ?_
                · intro w' hSw
                  obtain ⟨a0, a1, a2, a3, a4, a5⟩ := hSw
                  go_simp
                go_frame
                refine wpAnyH_take (i := 7) (v := (.pointer (some ⟨Q.b, 0, none⟩))) rfl (by kernel_rfl) (by kernel_rfl) (by kernel_rfl) (fun _ _ _ h => h) (Or.inl ⟨by rfl, ?_⟩) hHeld ?_
                · intro w' hSw
                  obtain ⟨a0, a1, a2, a3, a4, a5⟩ := hSw
                  go_simp
                go_frame
                refine wpAnyH_take (i := 8) (v := (.pointer (some ⟨Q.b, 3, none⟩))) rfl (by kernel_rfl) (by kernel_rfl) (by kernel_rfl) (fun _ _ _ h => h) (Or.inl ⟨by rfl, ?_⟩) hHeld ?_
                · intro w' hSw
                  obtain ⟨a0, a1, a2, a3, a4, a5⟩ := hSw
                  go_simp
                go_frame
                refine wpAnyH_take (i := 9) (v := (.slice (some ⟨g3, 0, none⟩) R.sureB.length cap3)) rfl (by kernel_rfl) (by kernel_rfl) (by kernel_rfl) (fun _ _ _ h => h) (Or.inl ⟨by rfl, ?_⟩) hHeld ?_
                · intro w' hSw
                  obtain ⟨a0, a1, a2, a3, a4, a5⟩ := hSw
                  go_simp
                go_frame
                refine wpAnyH_take (i := 10) (v := (.pointer (some ⟨wr.heap.size, 2, none⟩))) rfl (by kernel_rfl) (by kernel_rfl) (by kernel_rfl) (fun _ _ _ h => h) (Or.inl ⟨by rfl, ?_⟩) hHeld ?_
                · intro w' hSw
                  obtain ⟨a0, a1, a2, a3, a4, a5⟩ := hSw
                  go_simp
                go_frame
                refine wpAnyH_take (i := 11) (v := (.int .i64 (j : Int))) rfl (by kernel_rfl) (by kernel_rfl) (by kernel_rfl) (fun _ _ _ h => h) (Or.inl ⟨by rfl, ?_⟩) hHeld ?_
                · intro w' hSw
                  obtain ⟨a0, a1, a2, a3, a4, a5⟩ := hSw
                  go_simp
                go_frame
                refine wpAnyH_take (i := 12) (v := (.pointer (some ⟨g3, j, none⟩))) rfl (by kernel_rfl) (by kernel_rfl) (by kernel_rfl) (fun _ _ _ h => h) (Or.inl ⟨by rfl, ?_⟩) hHeld ?_
                · intro w' hSw
                  obtain ⟨a0, a1, a2, a3, a4, a5⟩ := hSw
                  go_simp
                go_frame
                refine wpAnyH_take (i := 14) (v := (.agg #[.int .i64 4, .string nm, .int .i64 (j : Int), .int .i64 at_, .string d])) rfl (by kernel_rfl) (by kernel_rfl) (by kernel_rfl) (fun _ _ _ h => h) (Or.inl ⟨by rfl, ?_⟩) hHeld ?_
                · intro w' hSw
                  obtain ⟨a0, a1, a2, a3, a4, a5⟩ := hSw
                  go_simp
                go_frame
                refine wpAnyH_ready (rs := [13]) (by kernel_rfl) (by simp) ?_
                refine AllReadyH.cons rfl (fun K hK => ?_) AllReadyH.nil
                go_simp
                refine hK.out _ _ hHeld (fun hHeld => ?_)
                clear hK K
                refine wpAnyH_ready (rs := [15]) (by kernel_rfl) (by simp) ?_
                refine AllReadyH.cons rfl (fun K hK => ?_) AllReadyH.nil
                go_simp
                (with_reducible refine HD.out.mono ?_)
                rintro e w6 ⟨rfl, hb6⟩
                have q6 := row6 (show WB.drew.ownsRow _ _ _ _ _ _ from HR3.out) hb6 HI3.out
                have p6 := q6.2
                have HX6 : Hid (Blk w6 wr.heap.size 99 #[.int .i64 4, .string nm, .int .i64 (j : Int), .int .i64 at_, .string d]) := Lib.hid ((hb6.block _ (blk_lt (show Blk WB.drew _ _ _ from HXB.out))).trans HXB.out)
                have HC6 : Hid (w6.cell? ⟨Q.b, 3, none⟩ = some (.slice (some ⟨g3, 0, none⟩) R.sureB.length cap3)) := Lib.hid ((hb6.cell (p := ⟨Q.b, 3, none⟩) (blk_lt HBB.out)).trans c3)
                have HB6 := Lib.hid hb6
                obtain ⟨y0, y1, y2, y3, y4⟩ := bxs_of HX6.out
                replace q6 := q6.1
                clear hb6
                go_simp
                refine hK.out _ _ ⟨y0, y1, y2, y3, y4, HC6.out⟩ (fun hHeld => ?_)
                clear hK K
                refine wpAnyH_take (i := 16) (v := (.pointer (some ⟨g3, j, none⟩))) rfl (by kernel_rfl) (by kernel_rfl) (by kernel_rfl) (fun _ _ _ h => h) (Or.inl ⟨by rfl, ?_⟩) hHeld ?_
                · intro w' hSw
                  obtain ⟨a0, a1, a2, a3, a4, a5⟩ := hSw
                  go_simp
                go_frame
                refine wpAnyH_ready (rs := [17]) (by kernel_rfl) (by simp) ?_
                refine AllReadyH.cons rfl (fun K hK => ?_) AllReadyH.nil
                go_simp
                refine hK.out _ _ (cell6_set3 HN3.out.1 HN3.out.2 ⟨y0, y1, y2, y3, y4, HC6.out⟩ _ _) (fun hHeld => ?_)
                clear hK K
                refine wpAnyH_done (by kernel_rfl) ?_ _
                go_wp2
                have hi9 := mid_file (mid_below HMB.out ((Same.refl WB).drew.below.trans HB6.out)) HLB.out.symm HV3.out j (qByt sv (Chg.trunc j z))
                have HI9 := Lib.hid (show MidI Q w (qsurvN u R.waits R (k + 1)) _ V by rw [HST.out]; exact hi9)
                clear hi9
                go_roundw
                case rel => exact ⟨k + 1, _, by omega, by go_num, HI9⟩
                case measure => simp [intOf]; omega
            | write j o dd =>
              obtain ⟨dz, hdz⟩ : ∃ dz, dz = bz dd := ⟨_, rfl⟩
              rw [show (Chg.write j o dd).qc = [.int .i64 3, .string ⟨#[]⟩, .int .i64 (j : Int), .int .i64 (o : Int), .string (bz dd)] from rfl, ← hdz] at r
              obtain ⟨nm, hnm⟩ : ∃ nm : ByteArray, nm = ⟨#[]⟩ := ⟨_, rfl⟩
              obtain ⟨at_, hat⟩ : ∃ at_ : Int, at_ = o := ⟨_, rfl⟩
              rw [← hat] at r
              have r' : ∀ i u, ([.int .i64 3, .string nm, .int .i64 (j : Int), .int .i64 at_, .string dz] : List Value)[i]? = some u → i < 5 → wr.cell? ⟨g4, k * 5 + i, none⟩ = some u := by rw [hnm]; exact r
              clear r
              have r := r'
              clear r'
              have hjl : j < R.sureB.length := hcok.1
              clear hod
              have x9b := cell_alloc x9 (.cells #[.int .i64 3, .string nm, .int .i64 (j : Int), .int .i64 at_, .string dz] 99)
              have r0 := r 0 _ rfl (by decide)
              have r1 := r 1 _ rfl (by decide)
              have r2 := r 2 _ rfl (by decide)
              have r3 := r 3 _ rfl (by decide)
              have r4 := r 4 _ rfl (by decide)
              rw [Nat.add_zero] at r0
              clear r
              by_cases h2 : uk % 3 = 2
              · have e1 : (uk : Int).tmod 3 = 2 := by rw [Int.tmod_eq_emod_of_nonneg (by omega)]; omega
                obtain ⟨q, hq⟩ : ∃ q, uk / 3 % (dd.length + 1) = q := ⟨_, rfl⟩
                have hql : q ≤ dd.length := by rw [← hq]; exact Nat.le_of_lt_succ (Nat.mod_lt _ (Nat.succ_pos _))
                have hdl : dd.length ≤ 20000 := hcok.2.2.1
                have hsz : dz.size = dd.length := by rw [hdz, bz_size]
                have e2 : (uk : Int).tdiv 3 = ((uk / 3 : Nat) : Int) := by rw [Int.tdiv_eq_ediv_of_nonneg (by omega)]; omega
                have e3 : (((uk / 3 : Nat) : Int)).tmod ((dd.length : Int) + 1) = (q : Int) := by rw [Int.tmod_eq_emod_of_nonneg (by omega), ← hq]; rfl
                have e4 : IntKind.u64.wrap ((uk / 3 : Nat) : Int) = ((uk / 3 : Nat) : Int) := IntWalk.u64_in _ ⟨by omega, by omega⟩
                obtain ⟨X, hX⟩ : ∃ X, X = bz (dd.take q) := ⟨_, rfl⟩
                have e5 : dz.extract 0 q = X := by rw [hX, hdz]; exact bz_take _ _
                have hdat : cutC (uk / 3 % ((datL (.write j o dd)).length + 1)) (.write j o dd) = .write j o (dd.take q) := by show Chg.write j o (dd.take (uk / 3 % (dd.length + 1))) = _; rw [hq]
                have hqz : q ≤ dz.size := by omega
                rw [← hsz] at e3
                have hdl2 : dz.size ≤ 20000 := by omega
                generalize uk / 3 = u3 at e2 e3 e4
                by_cases hXe : dd.take q = []
                · have hst := hst0.trans (qsurv_cut0 h2 (by rw [hdat, hXe]; rfl))
                  have t5 : (X.toList == []) = true := by rw [ByteArray.toList_eq, hX, bz_list, hXe]; rfl
                  have HST := Lib.hid hst
                  clear hst hst0 hdat hX hsz hql hdl hcok hq hdz hnm hat hXe
                  go_upto_region 8 with (fail)
                  go_region
                  go_wp2
                  have HI9 := Lib.hid (show MidI Q w (qsurvN u R.waits R (k + 1)) (wr.alloc (.cells #[.int .i64 3, .string nm, .int .i64 (j : Int), .int .i64 at_, .string X] 99)).drew V by rw [HST.out]; exact mid_below hI.out ((Below.refl _ _).alloc (Nat.le_refl _) _).drew)
                  go_roundw
                  case rel => exact ⟨k + 1, _, by omega, by go_num, HI9⟩
                  case measure => simp [intOf]; omega
                · have t5 : (X.toList == []) = false := by rw [ByteArray.toList_eq, hX, bz_list]; simpa using hXe
                  have hnd : noDat (.write j o (dd.take q)) = false := by
                    cases hc : dd.take q with
                    | nil => exact absurd hc hXe
                    | cons _ _ => rfl
                  have hst := hst0.trans ((qsurv_cut h2 (by rw [hdat]; exact hnd)).trans (by rw [hdat]))
                  have HCC := Lib.hid (show (Chg.write j o (dd.take q)).qc.toArray = #[.int .i64 3, .string nm, .int .i64 (j : Int), .int .i64 at_, .string X] by rw [hnm, hX, hat]; rfl)
                  have HOK := Lib.hid (show (Chg.write j o (dd.take q)).QOk R.sureB.length from ⟨hcok.1, hcok.2.1, by rw [List.length_take]; omega, hXe⟩)
                  clear hst0 hdat hX hsz hql hdl hcok hq hdz hnm hat hXe hnd
                  obtain ⟨WB, hWB⟩ : ∃ WB, WB = (wr.alloc (.cells #[.int .i64 3, .string nm, .int .i64 (j : Int), .int .i64 at_, .string X] 99)).drew := ⟨_, rfl⟩
                  have HXB : Hid (Blk WB wr.heap.size 99 #[.int .i64 3, .string nm, .int .i64 (j : Int), .int .i64 at_, .string X]) := Lib.hid (by rw [hWB]; exact blk_new wr _ _)
                  have hbB : Below wr.heap.size wr WB := by rw [hWB]; exact ((Below.refl _ _).alloc (Nat.le_refl _) _).drew
                  have HB := Lib.hid hbB
                  have HMB := Lib.hid (mid_below hI.out hbB)
                  have HBB : Hid (Blk WB Q.b 64 (qcells ⟨Q.b, V⟩ T)) := Lib.hid HMB.out.inv.blk
                  have HNE := Lib.hid (show wr.heap.size ≠ Q.b from fun e => by have h0 : Q.b < wr.heap.size := blk_lt hI.out.inv.blk; omega)
                  have HWB := Lib.hid hWB
                  clear hWB hbB
                  obtain ⟨sv, hsv⟩ : ∃ sv, sv = T.sureB.getD j [] := ⟨_, rfl⟩
                  have HST := Lib.hid (show qsurvN u R.waits R (k + 1) = { T with sureB := T.sureB.set j (qByt sv (Chg.write j o (dd.take q))) } by rw [hst, hsv]; rfl)
                  have hle : sv.length ≤ 40000 := by rw [hsv]; exact getD_le HTB.out.2.2.2 j
                  have hlb : T.sureB.length = R.sureB.length := HTB.out.2.1
                  have hr3 := HMB.out.inv.row 3 (.inl (by decide))
                  change WB.ownsRow 0 9 1 (V 3) T.sureB.length (T.sureB.flatMap strC) at hr3
                  obtain ⟨a3, cap3, hv3, hc3⟩ := row_slice hr3
                  obtain ⟨g3, rfl, hg3, -⟩ := hc3.resolve_left (by omega)
                  rw [hlb] at hv3 hr3
                  have HV3 := Lib.hid hv3
                  rw [hv3] at hr3
                  have HR3 := Lib.hid hr3
                  have HI3 := Lib.hid (show (T.sureB.flatMap strC)[j]? = some (.string (bz sv)) by rw [hsv]; exact str_at _ j (by omega))
                  have HN3 := Lib.hid (show wr.heap.size ≠ g3 ∧ Q.b ≠ g3 from ⟨fun e => by have h0 : g3 < wr.heap.size := hI.out.inv.lt (.inr ⟨3, .inl (by decide), show (V 3).ownBlock = some g3 by rw [hv3]; rfl⟩); omega, fun e => hI.out.inv.ne 3 (.inl (by decide)) (show (V 3).ownBlock = some Q.b by rw [hv3, e]; rfl)⟩)
                  have c3 : WB.cell? ⟨Q.b, 3, none⟩ = some (.slice (some ⟨g3, 0, none⟩) R.sureB.length cap3) := blk_cell HBB.out 3 (by rw [← hv3]; rfl)
                  have HLB := Lib.hid hlb
                  obtain ⟨z5, -⟩ := row6 HR3.out (Below.refl _ _) HI3.out
                  obtain ⟨x0, x1, x2, x3, x4⟩ := bxs_of HXB.out
                  have hjI : (j : Int) < R.sureB.length := by omega
                  have hj0 : ¬ (j : Int) < 0 := by omega
                  clear hr3 hc3 hg3 hv3 hlb hsv hst
                  go_upto_region 8 with (fail)
                  go_region
                  go_upto_region 9 with (fail)
                  rw [← HWB.out]
                  clear HWB
                  have hD := qbytes_any (w := WB.drew) (Chg.write j o (dd.take q)) rfl HOK.out sv (by omega)
                  rw [HCC.out] at hD
                  have HD := Lib.hid hD
                  clear hD
                  refine wp_region_held_drew (S := fun a => a.cell? ⟨wr.heap.size, 0, none⟩ = some (.int .i64 3) ∧ a.cell? ⟨wr.heap.size, 1, none⟩ = some (.string nm) ∧ a.cell? ⟨wr.heap.size, 2, none⟩ = some (.int .i64 (j : Int)) ∧ a.cell? ⟨wr.heap.size, 3, none⟩ = some (.int .i64 at_) ∧ a.cell? ⟨wr.heap.size, 4, none⟩ = some (.string X) ∧ a.cell? ⟨Q.b, 3, none⟩ = some (.slice (some ⟨g3, 0, none⟩) R.sureB.length cap3)) (by kernel_rfl) ⟨x0, x1, x2, x3, x4, c3⟩ (fun hHeld => ?_)
                  refine wpAnyH_take (i := 0) (v := (.pointer (some ⟨Q.b, 0, none⟩))) rfl (by kernel_rfl) (by kernel_rfl) (by kernel_rfl) (fun _ _ _ h => h) (Or.inl ⟨by rfl, ?_⟩) hHeld ?_
                  · intro w' hSw
                    obtain ⟨a0, a1, a2, a3, a4, a5⟩ := hSw
                    go_simp
                  go_frame
                  refine wpAnyH_take (i := 1) (v := (.pointer (some ⟨Q.b, 0, none⟩))) rfl (by kernel_rfl) (by kernel_rfl) (by kernel_rfl) (fun _ _ _ h => h) (Or.inl ⟨by rfl, ?_⟩) hHeld ?_
                  · intro w' hSw
                    obtain ⟨a0, a1, a2, a3, a4, a5⟩ := hSw
                    go_simp
                  go_frame
                  refine wpAnyH_take (i := 2) (v := (.pointer (some ⟨Q.b, 3, none⟩))) rfl (by kernel_rfl) (by kernel_rfl) (by kernel_rfl) (fun _ _ _ h => h) (Or.inl ⟨by rfl, ?_⟩) hHeld ?_
                  · intro w' hSw
                    obtain ⟨a0, a1, a2, a3, a4, a5⟩ := hSw
                    go_simp
                  go_frame
                  refine wpAnyH_take (i := 3) (v := (.slice (some ⟨g3, 0, none⟩) R.sureB.length cap3)) rfl (by kernel_rfl) (by kernel_rfl) (by kernel_rfl) (fun _ _ _ h => h) (Or.inl ⟨by rfl, ?_⟩) hHeld ?_
                  · intro w' hSw
                    obtain ⟨a0, a1, a2, a3, a4, a5⟩ := hSw
                    go_simp
                  go_frame
                  refine wpAnyH_take (i := 4) (v := (.pointer (some ⟨wr.heap.size, 2, none⟩))) rfl (by kernel_rfl) (by kernel_rfl) (by kernel_rfl) (fun _ _ _ h => h) (Or.inl ⟨by rfl, ?_⟩) hHeld ?_
                  · intro w' hSw
                    obtain ⟨a0, a1, a2, a3, a4, a5⟩ := hSw
                    go_simp
                  go_frame
                  refine wpAnyH_take (i := 5) (v := (.int .i64 (j : Int))) rfl (by kernel_rfl) (by kernel_rfl) (by kernel_rfl) (fun _ _ _ h => h) (Or.inl ⟨by rfl, ?_⟩) hHeld ?_
                  · intro w' hSw
                    obtain ⟨a0, a1, a2, a3, a4, a5⟩ := hSw
                    go_simp
                  go_frame
                  refine wpAnyH_take (i := 6) (v := (.pointer (some ⟨Q.b, 0, none⟩))) rfl (by kernel_rfl) (by kernel_rfl) (by kernel_rfl) (fun _ _ _ h => h) (Or.inl ⟨by rfl, ?_⟩) hHeld ?_
                  · intro w' hSw
                    obtain ⟨a0, a1, a2, a3, a4, a5⟩ := hSw
                    go_simp
                  go_frame
                  refine wpAnyH_take (i := 7) (v := (.pointer (some ⟨Q.b, 0, none⟩))) rfl (by kernel_rfl) (by kernel_rfl) (by kernel_rfl) (fun _ _ _ h => h) (Or.inl ⟨by rfl, ?_⟩) hHeld ?_
                  · intro w' hSw
                    obtain ⟨a0, a1, a2, a3, a4, a5⟩ := hSw
                    go_simp
                  go_frame
                  refine wpAnyH_take (i := 8) (v := (.pointer (some ⟨Q.b, 3, none⟩))) rfl (by kernel_rfl) (by kernel_rfl) (by kernel_rfl) (fun _ _ _ h => h) (Or.inl ⟨by rfl, ?_⟩) hHeld ?_
                  · intro w' hSw
                    obtain ⟨a0, a1, a2, a3, a4, a5⟩ := hSw
                    go_simp
                  go_frame
                  refine wpAnyH_take (i := 9) (v := (.slice (some ⟨g3, 0, none⟩) R.sureB.length cap3)) rfl (by kernel_rfl) (by kernel_rfl) (by kernel_rfl) (fun _ _ _ h => h) (Or.inl ⟨by rfl, ?_⟩) hHeld ?_
                  · intro w' hSw
                    obtain ⟨a0, a1, a2, a3, a4, a5⟩ := hSw
                    go_simp
                  go_frame
                  refine wpAnyH_take (i := 10) (v := (.pointer (some ⟨wr.heap.size, 2, none⟩))) rfl (by kernel_rfl) (by kernel_rfl) (by kernel_rfl) (fun _ _ _ h => h) (Or.inl ⟨by rfl, ?_⟩) hHeld ?_
                  · intro w' hSw
                    obtain ⟨a0, a1, a2, a3, a4, a5⟩ := hSw
                    go_simp
                  go_frame
                  refine wpAnyH_take (i := 11) (v := (.int .i64 (j : Int))) rfl (by kernel_rfl) (by kernel_rfl) (by kernel_rfl) (fun _ _ _ h => h) (Or.inl ⟨by rfl, ?_⟩) hHeld ?_
                  · intro w' hSw
                    obtain ⟨a0, a1, a2, a3, a4, a5⟩ := hSw
                    go_simp
                  go_frame
                  refine wpAnyH_take (i := 12) (v := (.pointer (some ⟨g3, j, none⟩))) rfl (by kernel_rfl) (by kernel_rfl) (by kernel_rfl) (fun _ _ _ h => h) (Or.inl ⟨by rfl, ?_⟩) hHeld ?_
                  · intro w' hSw
                    obtain ⟨a0, a1, a2, a3, a4, a5⟩ := hSw
                    go_simp
                  go_frame
                  refine wpAnyH_take (i := 14) (v := (.agg #[.int .i64 3, .string nm, .int .i64 (j : Int), .int .i64 at_, .string X])) rfl (by kernel_rfl) (by kernel_rfl) (by kernel_rfl) (fun _ _ _ h => h) (Or.inl ⟨by rfl, ?_⟩) hHeld ?_
                  · intro w' hSw
                    obtain ⟨a0, a1, a2, a3, a4, a5⟩ := hSw
                    go_simp
                  go_frame
                  refine wpAnyH_ready (rs := [13]) (by kernel_rfl) (by simp) ?_
                  refine AllReadyH.cons rfl (fun K hK => ?_) AllReadyH.nil
                  go_simp
                  refine hK.out _ _ hHeld (fun hHeld => ?_)
                  clear hK K
                  refine wpAnyH_ready (rs := [15]) (by kernel_rfl) (by simp) ?_
                  refine AllReadyH.cons rfl (fun K hK => ?_) AllReadyH.nil
                  go_simp
                  (with_reducible refine HD.out.mono ?_)
                  rintro e w6 ⟨rfl, hb6⟩
                  have q6 := row6 (show WB.drew.ownsRow _ _ _ _ _ _ from HR3.out) hb6 HI3.out
                  have p6 := q6.2
                  have HX6 : Hid (Blk w6 wr.heap.size 99 #[.int .i64 3, .string nm, .int .i64 (j : Int), .int .i64 at_, .string X]) := Lib.hid ((hb6.block _ (blk_lt (show Blk WB.drew _ _ _ from HXB.out))).trans HXB.out)
                  have HC6 : Hid (w6.cell? ⟨Q.b, 3, none⟩ = some (.slice (some ⟨g3, 0, none⟩) R.sureB.length cap3)) := Lib.hid ((hb6.cell (p := ⟨Q.b, 3, none⟩) (blk_lt HBB.out)).trans c3)
                  have HB6 := Lib.hid hb6
                  obtain ⟨y0, y1, y2, y3, y4⟩ := bxs_of HX6.out
                  replace q6 := q6.1
                  clear hb6
                  go_simp
                  refine hK.out _ _ ⟨y0, y1, y2, y3, y4, HC6.out⟩ (fun hHeld => ?_)
                  clear hK K
                  refine wpAnyH_take (i := 16) (v := (.pointer (some ⟨g3, j, none⟩))) rfl (by kernel_rfl) (by kernel_rfl) (by kernel_rfl) (fun _ _ _ h => h) (Or.inl ⟨by rfl, ?_⟩) hHeld ?_
                  · intro w' hSw
                    obtain ⟨a0, a1, a2, a3, a4, a5⟩ := hSw
                    go_simp
                  go_frame
                  refine wpAnyH_ready (rs := [17]) (by kernel_rfl) (by simp) ?_
                  refine AllReadyH.cons rfl (fun K hK => ?_) AllReadyH.nil
                  go_simp
                  refine hK.out _ _ (cell6_set3 HN3.out.1 HN3.out.2 ⟨y0, y1, y2, y3, y4, HC6.out⟩ _ _) (fun hHeld => ?_)
                  clear hK K
                  refine wpAnyH_done (by kernel_rfl) ?_ _
                  go_wp2
                  have hi9 := mid_file (mid_below HMB.out ((Same.refl WB).drew.below.trans HB6.out)) HLB.out.symm HV3.out j (qByt sv (Chg.write j o (dd.take q)))
                  have HI9 := Lib.hid (show MidI Q w (qsurvN u R.waits R (k + 1)) _ V by rw [HST.out]; exact hi9)
                  clear hi9
                  go_roundw
                  case rel => exact ⟨k + 1, _, by omega, by go_num, HI9⟩
                  case measure => simp [intOf]; omega
              · have e1 : (uk : Int).tmod 3 = 1 := by rw [Int.tmod_eq_emod_of_nonneg (by omega)]; omega
                have t5 : (dz.toList == []) = false := by rw [ByteArray.toList_eq, hdz, bz_list]; simpa using hcok.2.2.2
                have hst := hst0.trans (qsurv_one h0 h2 (qok_dat hcok))
                have HCC := Lib.hid (show (Chg.write j o dd).qc.toArray = #[.int .i64 3, .string nm, .int .i64 (j : Int), .int .i64 at_, .string dz] by rw [hnm, hdz, hat]; rfl)
                have HOK := Lib.hid hcok
                clear hst0 hcok hdz hnm hat
                obtain ⟨WB, hWB⟩ : ∃ WB, WB = (wr.alloc (.cells #[.int .i64 3, .string nm, .int .i64 (j : Int), .int .i64 at_, .string dz] 99)) := ⟨_, rfl⟩
                have HXB : Hid (Blk WB wr.heap.size 99 #[.int .i64 3, .string nm, .int .i64 (j : Int), .int .i64 at_, .string dz]) := Lib.hid (by rw [hWB]; exact blk_new wr _ _)
                have hbB : Below wr.heap.size wr WB := by rw [hWB]; exact ((Below.refl _ _).alloc (Nat.le_refl _) _)
                have HB := Lib.hid hbB
                have HMB := Lib.hid (mid_below hI.out hbB)
                have HBB : Hid (Blk WB Q.b 64 (qcells ⟨Q.b, V⟩ T)) := Lib.hid HMB.out.inv.blk
                have HNE := Lib.hid (show wr.heap.size ≠ Q.b from fun e => by have h0 : Q.b < wr.heap.size := blk_lt hI.out.inv.blk; omega)
                have HWB := Lib.hid hWB
                clear hWB hbB
                obtain ⟨sv, hsv⟩ : ∃ sv, sv = T.sureB.getD j [] := ⟨_, rfl⟩
                have HST := Lib.hid (show qsurvN u R.waits R (k + 1) = { T with sureB := T.sureB.set j (qByt sv (Chg.write j o dd)) } by rw [hst, hsv]; rfl)
                have hle : sv.length ≤ 40000 := by rw [hsv]; exact getD_le HTB.out.2.2.2 j
                have hlb : T.sureB.length = R.sureB.length := HTB.out.2.1
                have hr3 := HMB.out.inv.row 3 (.inl (by decide))
                change WB.ownsRow 0 9 1 (V 3) T.sureB.length (T.sureB.flatMap strC) at hr3
                obtain ⟨a3, cap3, hv3, hc3⟩ := row_slice hr3
                obtain ⟨g3, rfl, hg3, -⟩ := hc3.resolve_left (by omega)
                rw [hlb] at hv3 hr3
                have HV3 := Lib.hid hv3
                rw [hv3] at hr3
                have HR3 := Lib.hid hr3
                have HI3 := Lib.hid (show (T.sureB.flatMap strC)[j]? = some (.string (bz sv)) by rw [hsv]; exact str_at _ j (by omega))
                have HN3 := Lib.hid (show wr.heap.size ≠ g3 ∧ Q.b ≠ g3 from ⟨fun e => by have h0 : g3 < wr.heap.size := hI.out.inv.lt (.inr ⟨3, .inl (by decide), show (V 3).ownBlock = some g3 by rw [hv3]; rfl⟩); omega, fun e => hI.out.inv.ne 3 (.inl (by decide)) (show (V 3).ownBlock = some Q.b by rw [hv3, e]; rfl)⟩)
                have c3 : WB.cell? ⟨Q.b, 3, none⟩ = some (.slice (some ⟨g3, 0, none⟩) R.sureB.length cap3) := blk_cell HBB.out 3 (by rw [← hv3]; rfl)
                have HLB := Lib.hid hlb
                obtain ⟨z5, -⟩ := row6 HR3.out (Below.refl _ _) HI3.out
                obtain ⟨x0, x1, x2, x3, x4⟩ := bxs_of HXB.out
                have hjI : (j : Int) < R.sureB.length := by omega
                have hj0 : ¬ (j : Int) < 0 := by omega
                clear hr3 hc3 hg3 hv3 hlb hsv hst
                go_upto_region 9 with (fail)
                rw [← HWB.out]
                clear HWB
                have hD := qbytes_any (w := WB.drew) (Chg.write j o dd) rfl HOK.out sv (by omega)
                rw [HCC.out] at hD
                have HD := Lib.hid hD
                clear hD
                refine wp_region_held_drew (S := fun a => a.cell? ⟨wr.heap.size, 0, none⟩ = some (.int .i64 3) ∧ a.cell? ⟨wr.heap.size, 1, none⟩ = some (.string nm) ∧ a.cell? ⟨wr.heap.size, 2, none⟩ = some (.int .i64 (j : Int)) ∧ a.cell? ⟨wr.heap.size, 3, none⟩ = some (.int .i64 at_) ∧ a.cell? ⟨wr.heap.size, 4, none⟩ = some (.string dz) ∧ a.cell? ⟨Q.b, 3, none⟩ = some (.slice (some ⟨g3, 0, none⟩) R.sureB.length cap3)) (by kernel_rfl) ⟨x0, x1, x2, x3, x4, c3⟩ (fun hHeld => ?_)
                refine wpAnyH_take (i := 0) (v := (.pointer (some ⟨Q.b, 0, none⟩))) rfl (by kernel_rfl) (by kernel_rfl) (by kernel_rfl) (fun _ _ _ h => h) (Or.inl ⟨by rfl, ?_⟩) hHeld ?_
                · intro w' hSw
                  obtain ⟨a0, a1, a2, a3, a4, a5⟩ := hSw
                  go_simp
                go_frame
                refine wpAnyH_take (i := 1) (v := (.pointer (some ⟨Q.b, 0, none⟩))) rfl (by kernel_rfl) (by kernel_rfl) (by kernel_rfl) (fun _ _ _ h => h) (Or.inl ⟨by rfl, ?_⟩) hHeld ?_
                · intro w' hSw
                  obtain ⟨a0, a1, a2, a3, a4, a5⟩ := hSw
                  go_simp
                go_frame
                refine wpAnyH_take (i := 2) (v := (.pointer (some ⟨Q.b, 3, none⟩))) rfl (by kernel_rfl) (by kernel_rfl) (by kernel_rfl) (fun _ _ _ h => h) (Or.inl ⟨by rfl, ?_⟩) hHeld ?_
                · intro w' hSw
                  obtain ⟨a0, a1, a2, a3, a4, a5⟩ := hSw
                  go_simp
                go_frame
                refine wpAnyH_take (i := 3) (v := (.slice (some ⟨g3, 0, none⟩) R.sureB.length cap3)) rfl (by kernel_rfl) (by kernel_rfl) (by kernel_rfl) (fun _ _ _ h => h) (Or.inl ⟨by rfl, ?_⟩) hHeld ?_
                · intro w' hSw
                  obtain ⟨a0, a1, a2, a3, a4, a5⟩ := hSw
                  go_simp
                go_frame
                refine wpAnyH_take (i := 4) (v := (.pointer (some ⟨wr.heap.size, 2, none⟩))) rfl (by kernel_rfl) (by kernel_rfl) (by kernel_rfl) (fun _ _ _ h => h) (Or.inl ⟨by rfl, ?_⟩) hHeld ?_
                · intro w' hSw
                  obtain ⟨a0, a1, a2, a3, a4, a5⟩ := hSw
                  go_simp
                go_frame
                refine wpAnyH_take (i := 5) (v := (.int .i64 (j : Int))) rfl (by kernel_rfl) (by kernel_rfl) (by kernel_rfl) (fun _ _ _ h => h) (Or.inl ⟨by rfl, ?_⟩) hHeld ?_
                · intro w' hSw
                  obtain ⟨a0, a1, a2, a3, a4, a5⟩ := hSw
                  go_simp
                go_frame
                refine wpAnyH_take (i := 6) (v := (.pointer (some ⟨Q.b, 0, none⟩))) rfl (by kernel_rfl) (by kernel_rfl) (by kernel_rfl) (fun _ _ _ h => h) (Or.inl ⟨by rfl, ?_⟩) hHeld ?_
                · intro w' hSw
                  obtain ⟨a0, a1, a2, a3, a4, a5⟩ := hSw
                  go_simp
                go_frame
                refine wpAnyH_take (i := 7) (v := (.pointer (some ⟨Q.b, 0, none⟩))) rfl (by kernel_rfl) (by kernel_rfl) (by kernel_rfl) (fun _ _ _ h => h) (Or.inl ⟨by rfl, ?_⟩) hHeld ?_
                · intro w' hSw
                  obtain ⟨a0, a1, a2, a3, a4, a5⟩ := hSw
                  go_simp
                go_frame
                refine wpAnyH_take (i := 8) (v := (.pointer (some ⟨Q.b, 3, none⟩))) rfl (by kernel_rfl) (by kernel_rfl) (by kernel_rfl) (fun _ _ _ h => h) (Or.inl ⟨by rfl, ?_⟩) hHeld ?_
                · intro w' hSw
                  obtain ⟨a0, a1, a2, a3, a4, a5⟩ := hSw
                  go_simp
                go_frame
                refine wpAnyH_take (i := 9) (v := (.slice (some ⟨g3, 0, none⟩) R.sureB.length cap3)) rfl (by kernel_rfl) (by kernel_rfl) (by kernel_rfl) (fun _ _ _ h => h) (Or.inl ⟨by rfl, ?_⟩) hHeld ?_
                · intro w' hSw
                  obtain ⟨a0, a1, a2, a3, a4, a5⟩ := hSw
                  go_simp
                go_frame
                refine wpAnyH_take (i := 10) (v := (.pointer (some ⟨wr.heap.size, 2, none⟩))) rfl (by kernel_rfl) (by kernel_rfl) (by kernel_rfl) (fun _ _ _ h => h) (Or.inl ⟨by rfl, ?_⟩) hHeld ?_
                · intro w' hSw
                  obtain ⟨a0, a1, a2, a3, a4, a5⟩ := hSw
                  go_simp
                go_frame
                refine wpAnyH_take (i := 11) (v := (.int .i64 (j : Int))) rfl (by kernel_rfl) (by kernel_rfl) (by kernel_rfl) (fun _ _ _ h => h) (Or.inl ⟨by rfl, ?_⟩) hHeld ?_
                · intro w' hSw
                  obtain ⟨a0, a1, a2, a3, a4, a5⟩ := hSw
                  go_simp
                go_frame
                refine wpAnyH_take (i := 12) (v := (.pointer (some ⟨g3, j, none⟩))) rfl (by kernel_rfl) (by kernel_rfl) (by kernel_rfl) (fun _ _ _ h => h) (Or.inl ⟨by rfl, ?_⟩) hHeld ?_
                · intro w' hSw
                  obtain ⟨a0, a1, a2, a3, a4, a5⟩ := hSw
                  go_simp
                go_frame
                refine wpAnyH_take (i := 14) (v := (.agg #[.int .i64 3, .string nm, .int .i64 (j : Int), .int .i64 at_, .string dz])) rfl (by kernel_rfl) (by kernel_rfl) (by kernel_rfl) (fun _ _ _ h => h) (Or.inl ⟨by rfl, ?_⟩) hHeld ?_
                · intro w' hSw
                  obtain ⟨a0, a1, a2, a3, a4, a5⟩ := hSw
                  go_simp
                go_frame
                refine wpAnyH_ready (rs := [13]) (by kernel_rfl) (by simp) ?_
                refine AllReadyH.cons rfl (fun K hK => ?_) AllReadyH.nil
                go_simp
                refine hK.out _ _ hHeld (fun hHeld => ?_)
                clear hK K
                refine wpAnyH_ready (rs := [15]) (by kernel_rfl) (by simp) ?_
                refine AllReadyH.cons rfl (fun K hK => ?_) AllReadyH.nil
                go_simp
                (with_reducible refine HD.out.mono ?_)
                rintro e w6 ⟨rfl, hb6⟩
                have q6 := row6 (show WB.drew.ownsRow _ _ _ _ _ _ from HR3.out) hb6 HI3.out
                have p6 := q6.2
                have HX6 : Hid (Blk w6 wr.heap.size 99 #[.int .i64 3, .string nm, .int .i64 (j : Int), .int .i64 at_, .string dz]) := Lib.hid ((hb6.block _ (blk_lt (show Blk WB.drew _ _ _ from HXB.out))).trans HXB.out)
                have HC6 : Hid (w6.cell? ⟨Q.b, 3, none⟩ = some (.slice (some ⟨g3, 0, none⟩) R.sureB.length cap3)) := Lib.hid ((hb6.cell (p := ⟨Q.b, 3, none⟩) (blk_lt HBB.out)).trans c3)
                have HB6 := Lib.hid hb6
                obtain ⟨y0, y1, y2, y3, y4⟩ := bxs_of HX6.out
                replace q6 := q6.1
                clear hb6
                go_simp
                refine hK.out _ _ ⟨y0, y1, y2, y3, y4, HC6.out⟩ (fun hHeld => ?_)
                clear hK K
                refine wpAnyH_take (i := 16) (v := (.pointer (some ⟨g3, j, none⟩))) rfl (by kernel_rfl) (by kernel_rfl) (by kernel_rfl) (fun _ _ _ h => h) (Or.inl ⟨by rfl, ?_⟩) hHeld ?_
                · intro w' hSw
                  obtain ⟨a0, a1, a2, a3, a4, a5⟩ := hSw
                  go_simp
                go_frame
                refine wpAnyH_ready (rs := [17]) (by kernel_rfl) (by simp) ?_
                refine AllReadyH.cons rfl (fun K hK => ?_) AllReadyH.nil
                go_simp
                refine hK.out _ _ (cell6_set3 HN3.out.1 HN3.out.2 ⟨y0, y1, y2, y3, y4, HC6.out⟩ _ _) (fun hHeld => ?_)
                clear hK K
                refine wpAnyH_done (by kernel_rfl) ?_ _
                go_wp2
                have hi9 := mid_file (mid_below HMB.out ((Same.refl WB).drew.below.trans HB6.out)) HLB.out.symm HV3.out j (qByt sv (Chg.write j o dd))
                have HI9 := Lib.hid (show MidI Q w (qsurvN u R.waits R (k + 1)) _ V by rw [HST.out]; exact hi9)
                clear hi9
                go_roundw
                case rel => exact ⟨k + 1, _, by omega, by go_num, HI9⟩
                case measure => simp [intOf]; omega
      · obtain ⟨kd, nm, fi, at_, d, hcc, -, -, -⟩ := qc_lit c
        rw [hcc] at r
        have hu0 : uk = 0 := by rw [huk]; exact HX0.out k (by omega)
        have hst := hst0.trans (qsurv_none (by rw [hu0]))
        have hknI : ¬ (k : Int) < n := by omega
        clear hst0 hcc hu0 huk
        have r0 := r 0 _ rfl (by decide)
        have r1 := r 1 _ rfl (by decide)
        have r2 := r 2 _ rfl (by decide)
        have r3 := r 3 _ rfl (by decide)
        have r4 := r 4 _ rfl (by decide)
        rw [Nat.add_zero] at r0
        clear r
        have HST := Lib.hid hst
        clear hst
        go_wp2
        have HI9 := Lib.hid (show MidI Q w (qsurvN u R.waits R (k + 1)) (wr.alloc (.cells #[.int .i64 kd, .string nm, .int .i64 fi, .int .i64 at_, .string d] 99)) V by rw [HST.out]; exact mid_below hI.out ((Below.refl _ _).alloc (Nat.le_refl _) _))
        go_roundw
        case rel => exact ⟨k + 1, _, by omega, by go_num, HI9⟩
        case measure => simp [intOf]; omega
    · obtain rfl : k = R.waits.length := by omega
      have HE := Lib.hid (HEQ.out rfl)
      have HR1 := Lib.hid (hI.out.inv.row 1 (.inl (by decide)))
      change Hid (wr.ownsRow 0 104 2 (V 1) T.sure.length (T.sure.flatMap entC)) at HR1
      have HBW : Hid (Blk wr Q.b 64 (qcells ⟨Q.b, V⟩ T)) := Lib.hid hI.out.inv.blk
      have c1 := blk_cell HBW.out 1 (v := V 1) rfl
      have c1a := cell_alloc c1 (.cells #[] 104)
      have hsl := HTB.out.2.2.1
      have h2 := H2.out
      have hlb := HTB.out.2.1
      have hsl2 : T.sure.length ≤ 90000 := by omega
      have hlb2 : T.sureB.length ≤ 90000 := by omega
      clear hsl h2 hlb HSTEP HEQ hc4
      go_upto_region 14 with (first
        | (at_builtin; refine wpList_append_row _ rfl _ _ 60 rfl wr.heap.size 104 iE _ 2 24 Tryz.underlying60 hiE hzE hsE hbE rfl (by decide) (.slice (some ⟨wr.heap.size, 0, none⟩) 0 0) 0 [] rfl (row_none wr 104 2) (V 1) T.sure.length (T.sure.flatMap entC) rfl (HR1.out.alloc _) (one_ent _) (by unfold maxLen; omega) (by omega) (by simp) ?_; intro v5 w5 hown5 hgrow5 hbk5; rw [Nat.zero_add, List.nil_append] at hown5; obtain ⟨a5, cap5, hv5, -⟩ := row_slice (row_base hown5 (Nat.zero_le _)); subst hv5; have HB5 := Lib.hid (grown_new hgrow5); have hB5 : Blk w5 Q.b 64 _ := (HB5.out.block _ (blk_lt HBW.out)).trans HBW.out; have q0 := blk_cell hB5 0 (v := V 0) rfl; have p0 := blk_frozen hB5 0; have HO5 := Lib.hid hown5; clear hown5 hgrow5 hbk5 hB5))
      have hp1 := q_put (R' := ({ T with seen := T.sure } : RS)) hI.out.inv 0 (.inl (by decide)) HB5.out (row_base HO5.out (Nat.zero_le _)) (fun g hg => (HO5.out.lt g hg).1) (fun j hj hne => four_or hj (fun j => j ≠ 0 → eln ({ T with seen := T.sure } : RS) j = eln T j ∧ ecl ({ T with seen := T.sure } : RS) j = ecl T j) (fun e => absurd rfl e) (fun _ => ⟨rfl, rfl⟩) (fun _ => ⟨rfl, rfl⟩) (fun _ => ⟨rfl, rfl⟩) (fun _ => ⟨rfl, rfl⟩) (fun _ => ⟨rfl, rfl⟩) hne) ⟨rfl, rfl, rfl, rfl⟩
      have HQ1 := Lib.hid hp1.1
      have HS1 := Lib.hid (hI.out.stp.trans hp1.2)
      clear hp1 q0 p0 c1 c1a HO5 HB5
      revert HQ1 HS1
      generalize (updN V 0 (Value.slice a5 T.sure.length cap5)) = V1
      generalize w5.setCell ⟨Q.b, 0, none⟩ (.slice a5 T.sure.length cap5) = W1
      intro HQ1 HS1
      have HBW1 : Hid (Blk W1 Q.b 64 (qcells ⟨Q.b, V1⟩ ({ T with seen := T.sure } : RS))) := Lib.hid HQ1.out.blk
      have HR3 := Lib.hid (HQ1.out.row 3 (.inl (by decide)))
      change Hid (W1.ownsRow 0 9 1 (V1 3) T.sureB.length (T.sureB.flatMap strC)) at HR3
      have c3 := blk_cell HBW1.out 3 (v := V1 3) rfl
      have c3a := cell_alloc c3 (.cells #[] 9)
      go_upto_region 15 with (first
        | (at_builtin; refine wpList_append_row _ rfl _ _ 43 rfl W1.heap.size 9 i2 _ 1 16 Tryz.underlying43 hi2 hz2 hs2 hbb2 rfl (by decide) (.slice (some ⟨W1.heap.size, 0, none⟩) 0 0) 0 [] rfl (row_none W1 9 1) (V1 3) T.sureB.length (T.sureB.flatMap strC) rfl (HR3.out.alloc _) (one_str _) (by unfold maxLen; omega) (by omega) (by simp) ?_; intro v6 w6 hown6 hgrow6 hbk6; rw [Nat.zero_add, List.nil_append] at hown6; obtain ⟨a6, cap6, hv6, -⟩ := row_slice (row_base hown6 (Nat.zero_le _)); subst hv6; have HB6 := Lib.hid (grown_new hgrow6); have hB6 : Blk w6 Q.b 64 _ := (HB6.out.block _ (blk_lt HBW1.out)).trans HBW1.out; have q2 := blk_cell hB6 2 (v := V1 2) rfl; have p2 := blk_frozen hB6 2; have HO6 := Lib.hid hown6; clear hown6 hgrow6 hbk6 hB6))
      have hp2 := q_put (R' := ({ T with seen := T.sure, seenB := T.sureB } : RS)) HQ1.out 2 (.inl (by decide)) HB6.out (row_base HO6.out (Nat.zero_le _)) (fun g hg => (HO6.out.lt g hg).1) (fun j hj hne => four_or hj (fun j => j ≠ 2 → eln ({ T with seen := T.sure, seenB := T.sureB } : RS) j = eln ({ T with seen := T.sure } : RS) j ∧ ecl ({ T with seen := T.sure, seenB := T.sureB } : RS) j = ecl ({ T with seen := T.sure } : RS) j) (fun _ => ⟨rfl, rfl⟩) (fun _ => ⟨rfl, rfl⟩) (fun e => absurd rfl e) (fun _ => ⟨rfl, rfl⟩) (fun _ => ⟨rfl, rfl⟩) (fun _ => ⟨rfl, rfl⟩) hne) ⟨rfl, rfl, rfl, rfl⟩
      have HQ2 := Lib.hid hp2.1
      have HS2 := Lib.hid (HS1.out.trans hp2.2)
      clear hp2 q2 p2 c3 c3a HO6 HB6
      revert HQ2 HS2
      generalize (updN V1 2 (Value.slice a6 T.sureB.length cap6)) = V2
      generalize w6.setCell ⟨Q.b, 2, none⟩ (.slice a6 T.sureB.length cap6) = W2
      intro HQ2 HS2
      have hB2 : Blk W2 Q.b 64 (qcells ⟨Q.b, V2⟩ ({ T with seen := T.sure, seenB := T.sureB } : RS)) := HQ2.out.blk
      have d4 := blk_cell hB2 4 (v := V2 4) rfl
      have d7 := blk_cell hB2 7 (v := V2 7) rfl
      have d8 := blk_cell hB2 8 rfl
      have d9 := blk_cell hB2 9 rfl
      have p4 := blk_frozen hB2 4
      have p7 := blk_frozen hB2 7
      have p8 := blk_frozen hB2 8
      have p9 := blk_frozen hB2 9
      have HFIN := Lib.hid (res_end (Q := Q) (w := w) HQ2.out HS2.out)
      clear hB2 c4
      go_wp2
      go_returns
      refine ⟨rfl, ?_⟩
      rw [HE.out]
      exact HFIN.out
end Go.Proofs.YtkfncnpeockiaaaGreatDoor
