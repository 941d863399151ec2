/-
  Layer 7: Restart in general: what the choices leave, then all that is seen is what is durable. Condition: the sizes that the invariant holds; the choices lie in memory that is not the disk's.
-/
import Derived.Test.YtkfncnpeockiaaaGreatDoorMg23
import Derived.Test.YtkfncnpeockiaaaGreatDoorMg13
namespace Go.Proofs.YtkfncnpeockiaaaGreatDoor
open Go.RowKit
variable {L : Loc} {ρ ρ' : Nat → Option Role} {n : Nat} {S : DS} {w w' : World}

theorem survS_pend (c : Chg) (u : Nat) (S : DS) : (survS c u S).pend = S.pend := by
  unfold survS
  split
  · rfl
  · exact applyS_pend _ _ _
theorem survF_pend (u : Nat → Nat) (l : List Chg) (S : DS) : ∀ k, (survF u l S k).pend = S.pend
  | 0 => rfl
  | k + 1 => by
    unfold survF
    split
    · exact (survS_pend _ _ _).trans (survF_pend u l S k)
    · exact survF_pend u l S k
/-- All that is seen is what is durable, the machine up. -/
def seenS (T : DS) : DS := { T with dirs := upd T.dirs false (T.dirs true), pend := [], con := fun s i => if s = false ∧ (T.dirs true).any (fun p => p.2 == i) = true then T.con true i else T.con s i, flt := fun _ => 0, crash := 0, down := false }
theorem seenS_is (T : DS) (C : Bool → Nat → List UInt8) (hC : ∀ s i, C s i = if s = false ∧ (T.dirs true).any (fun p => p.2 == i) = true then T.con true i else T.con s i) : seenS T = endR { rmidS T (T.dirs true) with con := C } := by
  have e : C = fun s i => if s = false ∧ (T.dirs true).any (fun p => p.2 == i) = true then T.con true i else T.con s i := by funext s i; exact hC s i
  rw [e]
  rfl
theorem keys_find {l : List (List UInt8 × Nat)} (h : Keys l) {p : List UInt8 × Nat} (hp : p ∈ l) : findL l p.1 = some p.2 := by
  unfold findL
  induction l with
  | nil => cases hp
  | cons q t ih =>
    unfold Keys at h
    rw [List.map_cons, List.nodup_cons] at h
    rcases List.mem_cons.1 hp with rfl | hp'
    · simp
    · have hne : q.1 ≠ p.1 := fun e => h.1 (by rw [e]; exact List.mem_map_of_mem hp')
      rw [List.find?_cons_of_neg (by simpa using hne)]
      exact ih h.2 hp'
/-- A round of the second loop: the files that have been met are copied. -/
structure CpI (L1 : Loc) (ρ2 : Nat → Option Role) (W10 : World) (m' : Option Nat) (N : Nat) (T : DS) (left : Lit → Bool) (wr : World) : Prop where
  ex : ∃ (C : Bool → Nat → List UInt8) (L3 : Loc) (ρ3 : Nat → Option Role), Inv L3 ρ3 N { rmidS T (T.dirs true) with con := C } wr ∧ Step { L1 with m := upd L1.m false m', pv := .slice none 0 0 } ρ2 W10 L3 ρ3 wr ∧ L3.F = L1.F ∧ ρ3 W10.heap.size = none ∧
    (∀ s j, s = true → C s j = T.con s j) ∧ (∀ p, p ∈ T.dirs true → left (.string p.1) = false → C false p.2 = T.con true p.2) ∧ (∀ j, ((T.dirs true).any (fun p => p.2 == j) = false) → C false j = T.con false j)
/-- A round of the first loop. -/
structure RstI (u : Nat → Nat) (L : Loc) (ρ : Nat → Option Role) (n : Nat) (S : DS) (w : World) (i : Nat) (wr : World) : Prop where
  ex : ∃ L1 ρ1, Inv L1 ρ1 (n + i) (survF u S.pend S i) wr ∧ Step L ρ w L1 ρ1 wr ∧ L1.F = L.F ∧ L1.pv = L.pv

set_option maxHeartbeats 4000000 in
set_option maxRecDepth 100000 in
theorem rest_any (u : Nat → Nat) (a : Option Addr) (m cap0 : Nat) (x : Nat → Int) (hx : ∀ k, k < m → ∃ g o, a = some ⟨g, o, none⟩ ∧ g < w.heap.size ∧ ρ g = none ∧ w.cell? ⟨g, o + k, none⟩ = some (.int .i64 (x k)) ∧ IntKind.u64.wrap (x k) = (u k : Int)) (hx0 : ∀ k, m ≤ k → u k = 0) (hu : ∀ k, u k < 18446744073709551616)
    (h : Inv L ρ n S w) (hn : n + S.pend.length + 1 ≤ 100000) (hK : Keys ((survF u S.pend S S.pend.length).dirs true)) :
    Calls Tryz.prog 17 #[.pointer (some ⟨L.b, 0, none⟩), .slice a m cap0] w fun e w' => e = .returned (.tuple #[]) ∧ ∃ L' ρ', Inv L' ρ' (n + S.pend.length) (restartS u S) w' ∧ Step L ρ w L' ρ' w' ∧ L'.F = L.F := by
  have c3 := blk_cell h.blk 3 rfl
  obtain ⟨av, capv, hpv⟩ := row_any h.pnd
  obtain ⟨len, hlen⟩ : ∃ len, len = S.pend.length := ⟨_, rfl⟩
  rw [← hlen] at hpv hn ⊢
  rw [hpv] at c3
  have HX := Lib.hid hx; have HX0 := Lib.hid hx0; have HU := Lib.hid hu; have HPV := Lib.hid hpv; have HLEN := Lib.hid hlen; have HH := Lib.hid h; have HKY := Lib.hid hK
  have HI0 := Lib.hid (show RstI u L ρ n S w 0 w from ⟨L, ρ, h, Step.refl _ _ _, rfl, rfl⟩)
  have hlb : len ≤ 100000 := by omega
  clear h hx hx0 hu hpv hlen hK
  go_enter Tryz.func17, Tryz.ntmps17
  go_wp2
  go_loopw [16] (fun iv wr => ∃ i : Nat, i ≤ len ∧ iv = .int .i64 i ∧ Hid (RstI u L ρ n S w i wr)) (fun iv _ => len - (intOf iv).toNat)
  case atStart => exact ⟨0, Nat.zero_le _, rfl, HI0⟩
  case round =>
    obtain ⟨i, hi, rfl, hR⟩ := hrel
    obtain ⟨L1, ρ1, hI1, hS1, hF1, hpv1⟩ := hR.out.ex
    have hb1 : L1.b = L.b := hS1.b
    have hpd : (survF u S.pend S i).pend = S.pend := survF_pend u S.pend S i
    clear HI0 hR c3
    by_cases hlt : i < len
    · have hlt' : i < S.pend.length := by have := HLEN.out; omega
      have hstep := survF_step u S.pend S i hlt'
      have hcO : S.pend[i].Ok S.nf := HH.out.pok _ (List.getElem_mem hlt')
      have hmi : i < (survF u S.pend S i).pend.length := by rw [hpd]; exact hlt'
      have hma : (survF u S.pend S i).pend[i] = S.pend[i] := by simp only [hpd]
      obtain ⟨g, hgv⟩ : ∃ g, av = some ⟨g, 0, none⟩ := by
        rcases prow_of hI1.pnd with ⟨e, hp⟩ | ⟨g, cap', cur, e, hp⟩
        · rw [hpd] at hp; rw [hp] at hlt'; cases hlt'
        · rw [hpv1, HPV.out] at e
          injection e with e1 _ _
          exact ⟨g, e1⟩
      subst hgv
      have hlp : S.pend.length = len := HLEN.out.symm
      obtain ⟨cur, hP⟩ := prow_at hI1.pnd (show L1.pv = .slice (some ⟨g, 0, none⟩) (survF u S.pend S i).pend.length capv by rw [hpv1, HPV.out, hpd, hlp])
      rw [hF1] at hP
      obtain ⟨ck, nm, fp, o, d, hcl⟩ := chg_lit L.F S.pend[i]
      have r0 := prow_cell hP i 0 hmi (by omega) (v := .int .i64 ck) (by rw [hma, hcl]; rfl)
      have r1 := prow_cell hP i 1 hmi (by omega) (v := .string nm) (by rw [hma, hcl]; rfl)
      have r2 := prow_cell hP i 2 hmi (by omega) (v := .pointer fp) (by rw [hma, hcl]; rfl)
      have r3 := prow_cell hP i 3 hmi (by omega) (v := .int .i64 o) (by rw [hma, hcl]; rfl)
      have r4 := prow_cell hP i 4 hmi (by omega) (v := .string d) (by rw [hma, hcl]; rfl)
      rw [Nat.add_zero] at r0
      have hIA := hI1.alloc (.cells #[.int .i64 ck, .string nm, .pointer fp, .int .i64 o, .string d] 74)
      have hSA : Step L ρ w L1 ρ1 (wr.alloc (.cells #[.int .i64 ck, .string nm, .pointer fp, .int .i64 o, .string d] 74)) := hS1.trans (Step.below ((Below.refl _ _).alloc (Nat.le_refl _) _))
      have hA := survive_any S.pend[i] (u i) (HU.out i) hIA (by rw [survF_nf]; exact hcO) (by omega)
      rw [hF1, hcl, ← hstep, hb1] at hA
      have HA := Lib.hid hA; have HSA := Lib.hid hSA; have HF1 := Lib.hid hF1; have HPV1 := Lib.hid hpv1; have HS1 := Lib.hid hS1
      have hlti : (i : Int) < len := by omega
      have t1 : ¬ ((i : Int) < 0) := by omega
      clear hA hIA hSA hstep hcO hmi hma hP hcl hF1 hpv1 hb1 hI1 hS1 hpd hlt' hlp
      by_cases him : i < m
      · obtain ⟨gc, oc, rfl, hgc, hgr, hcx, hcw⟩ := HX.out i him
        have x9 : wr.cell? ⟨gc, oc + i, none⟩ = some (.int .i64 (x i)) := (World.cell?_of_block (a := ⟨gc, oc + i, none⟩) (HS1.out.blk gc hgc hgr)).trans hcx
        have x9b := cell_alloc x9 (.cells #[.int .i64 ck, .string nm, .pointer fp, .int .i64 o, .string d] 74)
        have himI : (i : Int) < m := by omega
        clear hcx hgc hgr
        go_wp2_with (go_at_call 47; (with_reducible refine HA.out.mono ?_); rintro e w2 ⟨rfl, L2, ρ2, hI2, hS2, hF2, hP2⟩; have HI2 := Lib.hid (show RstI u L ρ n S w (i + 1) w2 from ⟨L2, ρ2, hI2, HSA.out.trans hS2, hF2.trans HF1.out, hP2.trans HPV1.out⟩); clear hI2 hS2 hF2 hP2)
        go_roundw
        case rel => exact ⟨i + 1, by omega, by go_num, HI2⟩
        case measure => simp [intOf]; omega
      · have hu0 := HX0.out i (by omega)
        have himI : ¬ (i : Int) < m := by omega
        have hw0 : IntKind.u64.wrap 0 = 0 := by decide
        rw [hu0] at HA
        rw [show ((0 : Nat) : Int) = 0 from rfl] at HA
        go_wp2_with (go_at_call 47; (with_reducible refine HA.out.mono ?_); rintro e w2 ⟨rfl, L2, ρ2, hI2, hS2, hF2, hP2⟩; have HI2 := Lib.hid (show RstI u L ρ n S w (i + 1) w2 from ⟨L2, ρ2, hI2, HSA.out.trans hS2, hF2.trans HF1.out, hP2.trans HPV1.out⟩); clear hI2 hS2 hF2 hP2)
        go_roundw
        case rel => exact ⟨i + 1, by omega, by go_num, HI2⟩
        case measure => simp [intOf]; omega
    · obtain rfl : i = len := by omega
      rw [← hb1]
      have HRS := Lib.hid (show restartS u S = seenS (survF u S.pend S i) by rw [HLEN.out]; rfl)
      have HKT := Lib.hid (show Keys ((survF u S.pend S i).dirs true) by rw [HLEN.out]; exact HKY.out)
      have HS1 := Lib.hid hS1; have HF1 := Lib.hid hF1
      have d3x : L1.pv = .slice av i capv := by rw [hpv1, HPV.out]
      clear hpd hS1 hF1 hpv1 hb1
      generalize survF u S.pend S i = T at *
      have hblk := hI1.blk
      have d3 := blk_cell hblk 3 rfl
      have f3 := blk_frozen hblk 3
      have hb9 := blk_set hblk 3 (.slice none 0 0)
      have hk9 : ∀ g, g ≠ L1.b → (wr.setCell ⟨L1.b, 3, none⟩ (.slice none 0 0)).heap[g]? = wr.heap[g]? := setCell_keep _ _ _ _
      have hz9 : (wr.setCell ⟨L1.b, 3, none⟩ (.slice none 0 0)).heap.size = wr.heap.size := size_setCell' _ _ _
      have hs9 : (wr.setCell ⟨L1.b, 3, none⟩ (.slice none 0 0)).os = wr.os ∧ (wr.setCell ⟨L1.b, 3, none⟩ (.slice none 0 0)).tape = wr.tape ∧ (wr.setCell ⟨L1.b, 3, none⟩ (.slice none 0 0)).output = wr.output := ⟨rfl, rfl, rfl⟩
      have hm9 : MapI ρ1 L1.F (wr.setCell ⟨L1.b, 3, none⟩ (.slice none 0 0)) (L1.m true) (.map true) (T.dirs true) := mapI_keep (hI1.mp true) (fun g hg => hk9 g (fun e => by subst e; have := hI1.hb; rw [this] at hg; cases hg)) (fun _ _ h => h)
      have HM9 := Lib.hid hm9; have HB9 := Lib.hid hb9; have HK9 := Lib.hid hk9; have HZ9 := Lib.hid hz9; have HS9 := Lib.hid hs9; have HI := Lib.hid hI1
      have hc2 := blk_cell hb9 2 rfl
      clear hI1 hblk hb9 hk9 hz9 hs9 hm9
      have hge : ¬ ((i : Int) < i) := by omega
      go_upto_region 10 with (fail)
      revert HM9 HB9 HK9 HZ9 HS9 hc2
      generalize wr.setCell ⟨L1.b, 3, none⟩ (.slice none 0 0) = W9
      intro HM9 HB9 HK9 HZ9 HS9 hc2
      have HC2 := Lib.hid (show W9.cell? ⟨L1.b, 2, none⟩ = some (.map (L1.m true)) from hc2)
      clear hc2
      go_region_held3 (fun v => v.cell? ⟨L1.b, 2, none⟩ = some (.map (L1.m true)))
        (first | assumption | exact HC2.out | exact blk_cell (blk_set (by assumption) 1 _) 2 rfl)
        ((go_at_call 48; refine (mclone_any (w := W9.drew) HM9.out).mono ?_; rintro e w2 ⟨m', rfl, hmc, hb⟩
          have hbx : Blk w2 L1.b 59 #[.int .i64 T.room, .map (L1.m false), .map (L1.m true), .slice none 0 0, .int .i64 T.ops, .map L1.fm, .int .i64 T.crash, .bool T.down] := (hb.block _ (blk_lt HB9.out)).trans HB9.out
          have x1 := blk_cell hbx 1 rfl; have x2 := blk_cell hbx 2 rfl; have x3 := blk_frozen hbx 1))
      have HMID := Lib.hid (mid_fin HI.out (T.dirs true) (HI.out.bnd.2.2.1 true) (fun p hp => HI.out.dok true p hp) HK9.out HZ9.out HS9.out hmc hb hbx)
      clear hmc hb hbx x1 x2 x3
      revert HMID
      generalize w2.setCell ⟨L1.b, 1, none⟩ (.map m') = W10
      intro HMID
      obtain ⟨ρ2, hI2, hS2⟩ := HMID.out
      clear HMID
      have HI2 := Lib.hid hI2
      have HS2 := Lib.hid ((Step.below (w := wr) (Below.refl _ _)).trans hS2)
      have hm := hI2.mp false
      simp only [rmidS, upd_same] at hm
      have y1 : W10.cell? ⟨L1.b, 1, none⟩ = some (.map m') := blk_cell hI2.blk 1 (by simp [upd])
      clear hI2 hS2
      have HCO := Lib.hid (fun (C : Bool → Nat → List UInt8) hC => seenS_is T C hC)
      rcases hm with ⟨rfl, hl0⟩ | ⟨g, rfl, hgr, hown⟩
      · have hr1 := run_range_nilMap (P := Tryz.prog) W10 54 _ _ underF
        have hr2 := fun ty => run_next_nilMap (P := Tryz.prog) W10 ty 0 0 #[]
        have hI3 := HI2.out.below (w' := W10.alloc (.mapIter none 0 #[] 0)) ((Below.refl _ _).alloc (Nat.le_refl _) _)
        have hb11 := hI3.blk
        have z5 := blk_cell hb11 5 rfl; have z6 := blk_cell hb11 6 rfl; have z7 := blk_cell hb11 7 rfl
        have p5 := blk_frozen hb11 5; have p6 := blk_frozen hb11 6; have p7 := blk_frozen hb11 7
        have hE := inv_end hI3
        have HE := Lib.hid hE.1
        have HES := Lib.hid (((HS1.out.trans HS2.out).trans (Step.below ((Below.refl _ W10).alloc (Nat.le_refl _) (.mapIter none 0 #[] 0)))).trans hE.2)
        have HC0 := Lib.hid (HCO.out T.con (fun s j => by rw [hl0]; simp))
        clear hI3 hb11 hE hl0
        go_wp2
        go_loopw [] (fun wr' => wr' = W10.alloc (.mapIter none 0 #[] 0)) (fun _ => 0)
        case atStart => rfl
        case round =>
          obtain rfl := hrel
          go_wp2
          go_returns
          refine ⟨rfl, _, _, ?_, HES.out, HF1.out⟩
          rw [HRS.out, HC0.out]
          exact HE.out
      · have hgl : g < W10.heap.size := HI2.out.lt (by rw [hgr]; simp)
        have HGR := Lib.hid hgr; have HGL := Lib.hid hgl
        clear hgr hgl
        go_wp2_with (first
          | (at_range; refine wpList_range_own _ rfl _ 54 rfl 9 71 lawStr underF fileR g _ _ rfl hown ?_; intro w0 hrg0 hg0 hs0)
          | go_in)
        go_loopw [] (fun wr' => ∃ (left : Lit → Bool) (cnt : Nat), wr'.ranges Tryz.prog 9 fileR g W10.heap.size (T.dirs true).length (fileD L1.F (T.dirs true)) left cnt ∧ Hid (CpI L1 ρ2 W10 (some g) (n + i) T left wr') ∧ Hid (∀ kl, left kl = true → Maps.has (fileD L1.F (T.dirs true)) kl = true)) (fun wr' => wr'.rangeLeft g W10.heap.size)
        case atStart =>
          have hbs : Below W10.heap.size W10 w0 := ⟨hg0.os, hg0.tape, hg0.output, hg0.size, fun k hk => hg0.block k hk (by simp)⟩
          refine ⟨_, _, hrg0, Lib.hid ⟨T.con, _, ρ2, HI2.out.below hbs, Step.below hbs, rfl, HI2.out.old _ (Nat.le_refl _), fun _ _ _ => rfl, fun p hp hl => ?_, fun _ _ => rfl⟩, Lib.hid (fun kl h => h)⟩
          have h2 := mem_findL hp
          rw [← fileD_has (F := L1.F)] at h2
          rw [h2] at hl
          cases hl
        case round =>
          obtain ⟨left, cnt, hrg, HC, HL⟩ := hrel
          clear hown hrg0 hg0 hs0 y1
          go_wp2_with (first
            | (at_next; refine wpList_next_ranges _ rfl _ rfl 9 lawStr fileR Value.string Value.pointer (fun key kl hkey => keyStr_inv hkey) (fun v y hv => fileR_inv hv) g W10.heap.size _ _ _ _ rfl hrg ?_ ?_)
            | go_in)
          · intro hc0 hl0
            obtain ⟨C, L3, ρ3, hI3, hS3, hF3, hr3, hc1, hc2, hc3⟩ := HC.out.ex
            have hb3 : L3.b = L1.b := hS3.b
            have hb11 := hI3.blk
            have hE := inv_end hI3
            rw [hb3] at hb11 hE
            have z5 := blk_cell hb11 5 rfl; have z6 := blk_cell hb11 6 rfl; have z7 := blk_cell hb11 7 rfl
            have p5 := blk_frozen hb11 5; have p6 := blk_frozen hb11 6; have p7 := blk_frozen hb11 7
            have HE := Lib.hid hE.1
            have HES := Lib.hid (((HS1.out.trans HS2.out).trans hS3).trans hE.2)
            have HF3 := Lib.hid (hF3.trans HF1.out)
            have HC0 := Lib.hid (HCO.out C (fun s j => by
              cases s with
              | true => rw [if_neg (by simp)]; exact hc1 true j rfl
              | false =>
                cases ha : (T.dirs true).any (fun p => p.2 == j) with
                | false => rw [if_neg (by simp)]; exact hc3 j ha
                | true =>
                  rw [if_pos ⟨rfl, rfl⟩]
                  obtain ⟨p, hp, e⟩ := List.any_eq_true.1 ha
                  have e' : p.2 = j := by simpa using e
                  rw [← e']
                  exact hc2 p hp (hl0 _)))
            clear hI3 hS3 hF3 hb11 hE hc1 hc2 hc3 hrg hb3 hr3
            go_wp2
            go_returns
            refine ⟨rfl, _, _, ?_, HES.out, HF3.out⟩
            rw [HRS.out, HC0.out]
            exact HE.out
          · intro x c kl y1 y2 w1 cnt1 hkey hlx hy hat hrg1 hlt hg1 hs1 hen
            obtain rfl := keyStr_lit hkey
            have hhas := HL.out _ hlx
            rw [fileD_has] at hhas
            obtain ⟨j, hj⟩ := Option.isSome_iff_exists.1 hhas
            obtain rfl := fileR_at hj hy hat
            have hmem := findL_mem hj
            obtain ⟨C, L3, ρ3, hI3, hS3, hF3, hr3, hc1, hc2, hc3⟩ := HC.out.ex
            have hjn : j < T.nf := HI.out.dok true _ hmem
            have hIw : Inv L3 ρ3 (n + i) { rmidS T (T.dirs true) with con := C } w1 := hI3.heap (fun k hk => hg1.block k (hI3.lt hk) (fun e => hk (by injection e with e; rw [e]; exact hr3))) hg1.size
            have hSw : Step { L1 with m := upd L1.m false (some g), pv := .slice none 0 0 } ρ2 W10 L3 ρ3 w1 := ⟨hg1.os.trans hS3.os, hg1.tape.trans hS3.tape, hg1.output.trans hS3.output, Nat.le_trans hS3.size hg1.size,
              fun k hk hn => (hg1.block k (Nat.lt_of_lt_of_le hk hS3.size) (fun e => by injection e with e; omega)).trans (hS3.blk k hk hn), hS3.ro, hS3.b⟩
            have hfil : Blk w1 (L1.F j) 82 #[L3.V false j, L3.V true j] := by rw [← hF3]; exact hIw.fil j hjn
            have hfr : ρ3 (L1.F j) = some (.file j) := by rw [← hF3]; exact hI3.fro j hjn
            have hcon : Bys w1 (L3.V true j) (C true j) := hIw.con true j hjn
            have hclen : (C true j).length ≤ 4000000 := hIw.clen true j hjn
            have hgg : g ≠ L1.F j := fun e => by
              have e1 := hS3.ro g HGL.out
              rw [HGR.out, e, hfr] at e1
              cases e1
            have hgi : W10.heap.size ≠ L1.F j := fun e => by rw [e, hfr] at hr3; cases hr3
            have hsz : W10.heap.size < w1.heap.size := hrg1.lt
            have HIW := Lib.hid hIw; have HSW := Lib.hid hSw; have HF3 := Lib.hid hF3; have HR3 := Lib.hid hr3; have HC1 := Lib.hid hc1; have HC2 := Lib.hid hc2; have HC3 := Lib.hid hc3
            have HMEM := Lib.hid hmem; have HRG1 := Lib.hid hrg1; have HFIL := Lib.hid hfil; have HCON := Lib.hid hcon; have HLT := Lib.hid hlt; have HJN := Lib.hid hjn
            have hm0 := hrg.left_eq
            have z0 := blk_cell hfil 0 rfl; have z1 := blk_cell hfil 1 rfl; have z2 := blk_frozen hfil 0
            clear hI3 hS3 hF3 hr3 hc1 hc2 hc3 hIw hSw hrg hrg1 hfil hcon hhas hy hat hkey hmem hj hg1 hfr hlt hjn
            go_upto_region 14 with (fail)
            go_region_held3 (fun v => v.cell? ⟨L1.F j, 1, none⟩ = some (L3.V true j))
              (first | assumption | exact z1 | exact blk_cell (blk_set (by assumption) 0 _) 1 rfl)
              ((go_at_call 49; refine (sclone_any (w := w1.drew) HCON.out hclen).mono ?_; rintro e w2 ⟨v', rfl, hbv, hb, ho⟩
                obtain ⟨va, vc, hv, hvc⟩ := bys_slice hbv
                subst hv
                have hbx : Blk w2 (L1.F j) 82 #[L3.V false j, L3.V true j] := (hb.block _ (blk_lt HFIL.out)).trans HFIL.out
                have x0 := blk_cell hbx 0 rfl; have x1 := blk_cell hbx 1 rfl; have x2 := blk_frozen hbx 0))
            generalize hvv : Value.slice va (C true j).length vc = v' at *
            have hb1 : Below w1.heap.size w1 w2 := ((Below.refl _ w1).drew).trans hb
            have HFIN := Lib.hid (show ∃ ρ', Inv { L3 with V := upd2 L3.V false j v' } ρ' (n + i) { rmidS T (T.dirs true) with con := upd2 C false j (C true j) } (w2.setCell ⟨L1.F j, 0, none⟩ v') ∧ Step L3 ρ3 w1 { L3 with V := upd2 L3.V false j v' } ρ' (w2.setCell ⟨L1.F j, 0, none⟩ v') by
              have := inv_con2 HIW.out false j HJN.out hb1 hbv hclen ho
              rw [show L3.F j = L1.F j by rw [HF3.out]] at this
              exact this)
            have hg2 : w1.grownBy (w2.setCell ⟨L1.F j, 0, none⟩ v') (some (L1.F j)) := ⟨hb1.os, hb1.tape, hb1.output, by rw [size_setCell']; exact hb1.size, fun k hk hne => (setCell_keep w2 (L1.F j) 0 v' k (fun e => hne (by rw [e]))).trans (hb1.block k hk)⟩
            have HRG2 := Lib.hid (HRG1.out.kept hg2 (fun e => hgg (by injection e)) (fun e => hgi (by injection e)))
            have hm1 := HRG2.out.left_eq
            have HL1 : Hid (∀ kl, (left kl && !kl.sameKey (.string x.data.toList)) = true → Maps.has (fileD L1.F (T.dirs true)) kl = true) := Lib.hid (fun kl hkl => HL.out kl (by revert hkl; cases left kl <;> simp))
            have HCP : Hid (CpI L1 ρ2 W10 (some g) (n + i) T (fun z => left z && !z.sameKey (.string x.data.toList)) (w2.setCell ⟨L1.F j, 0, none⟩ v')) := Lib.hid (by
              obtain ⟨ρ', hI4, hS4⟩ := HFIN.out
              refine ⟨upd2 C false j (C true j), _, ρ', hI4, HSW.out.trans hS4, HF3.out, (hS4.ro _ hsz).trans HR3.out, fun s k hs => ?_, fun p hp hl => ?_, fun k hk => ?_⟩
              · subst hs
                unfold upd2
                rw [if_neg (by simp)]
                exact HC1.out true k rfl
              · by_cases hpj : p.2 = j
                · unfold upd2
                  rw [if_pos ⟨rfl, hpj⟩, hpj]
                  exact HC1.out true j rfl
                · unfold upd2
                  rw [if_neg (fun e => hpj e.2)]
                  refine HC2.out p hp ?_
                  have hne : p.1 ≠ x.data.toList := fun e => hpj (by
                    have h1 : findL (T.dirs true) p.1 = some p.2 := keys_find HKT.out hp
                    have h2 : findL (T.dirs true) x.data.toList = some j := keys_find HKT.out HMEM.out
                    rw [e, h2] at h1
                    exact (Option.some.inj h1).symm)
                  have hsk : Lit.sameKey (.string p.1) (.string x.data.toList) = false := by simpa [Lit.sameKey] using hne
                  rw [hsk] at hl
                  simpa using hl
              · unfold upd2
                rw [if_neg]
                · exact HC3.out k hk
                · rintro ⟨-, rfl⟩
                  rw [List.any_eq_false] at hk
                  exact hk _ HMEM.out (by simp))
            clear hbv hb ho hbx x0 x1 x2 hb1 hg2
            go_wp2
            go_roundw
            case rel => exact ⟨_, cnt1, HRG2.out, HCP, HL1⟩
            case measure => rw [hm0, hm1]; exact HLT.out
end Go.Proofs.YtkfncnpeockiaaaGreatDoor
