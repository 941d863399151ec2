/-
  Layer 12: CacheDoes, walked. Condition: the operations lie in memory.
-/
import Derived.Test.YtkpgekfejfbpjaaCcLaw3
import Derived.Deep.CutBlock
import Derived.Deep.CutRange
namespace Go.Proofs.Ytkpgekfejfbpjaa
open Go.RowKit
variable {w w' : World}

set_option maxRecDepth 100000 in
set_option maxHeartbeats 4000000 in
theorem cdoes_any (room : Int) (hr : IsI room) (a : Option Addr) (cap : Nat) (l : List OpC) (hl : l.length ≤ 9223372036854775807) (ha : OpsC w a l) :
    Calls Try.prog 3 #[.int .i64 room, .slice a l.length cap] w fun e w' => e = .returned (.bool true) ∧ Below w.heap.size w w' := by
  have KW := Lib.hid (cworks_any w)
  have HA := Lib.hid ha
  clear ha
  have KG : Hid (∀ w1, Below w.heap.size w w1 → Calls Try.prog 6 #[.slice a l.length cap] w1 (GrtQ (GrtC l) w1)) := Lib.hid fun w1 h1 => cgreat_any a cap l w1 hl (opsC_below HA.out (Nat.le_refl _) h1)
  have HR := Lib.hid hr
  clear hr
  obtain ⟨len, hlen⟩ : ∃ len, len = l.length := ⟨_, rfl⟩
  rw [← hlen] at hl KG ⊢
  have HL := Lib.hid hlen; clear hlen
  go_enter Try.func3, Try.ntmps3
  go_wp2_with (first
    | (go_at_call 5; refine KW.out.mono ?_; rintro e1 w1 ⟨rfl, q1⟩; have B1 := Lib.hid q1; clear q1)
    | (go_at_call 6; refine (KG.out _ B1.out).mono ?_; rintro e2 w2 ⟨g, rfl, hg, rfl⟩; have HG := Lib.hid hg; clear hg)
    | (go_at_call 7; refine (new_any room HR.out w1).mono ?_; rintro e3 w3 ⟨rfl, q1, q2⟩; obtain ⟨L, hL⟩ : ∃ L, L = newL w1.heap.size := ⟨_, rfl⟩; have J3 := Lib.hid (jc_new q1 q2); rw [← hL] at J3 ⊢; clear q1 q2 hL)
    | (go_at_call 8; refine (qnew_any room HR.out w3).mono ?_; rintro e4 w4 ⟨rfl, q1, q2⟩; have J4 := Lib.hid (jj_new J3.out q1 q2 HR.out); clear q1 q2))
  -- BEHIND the calls ahead of the loop
  · first | go_ret | go_returns
    exact ⟨rfl, B1.out⟩
  have HGG := Lib.hid (HG.out (by assumption))
  obtain ⟨q, hq⟩ : ∃ q, q = w3.heap.size := ⟨_, rfl⟩
  rw [← hq] at J4 ⊢
  clear KG KW HG J3 hq
  have hlen101 : len ≤ 101 := by have := HGG.out.1; have := HL.out; omega
  go_loopw [8] (fun t8 wr => ∃ k : Nat, k ≤ len ∧ t8 = .int .i64 k ∧ Hid (JJ w1 L q k wr)) (fun t8 _ => len - (intOf t8).toNat)
  case atStart => exact ⟨0, Nat.zero_le _, rfl, J4⟩
  case round =>
    clear J4
    obtain ⟨k, hk, rfl, HJ⟩ := hrel
    obtain ⟨ρ, A, v, R, hJ, hS, hB⟩ := HJ.out.ex
    by_cases hlt : k < len
    · have hlt' : k < l.length := by have := HL.out; omega
      have hoC := opsC_below (opsC_below HA.out (Nat.le_refl _) B1.out) (Nat.le_refl _) hJ.bel
      obtain ⟨hoo, g, off, rfl, hgw, c0, c1, c2⟩ := hoC k hlt'
      have hdz : l[k].data.size ≤ 1000 := HGG.out.2 _ (List.getElem_mem hlt')
      have HN0 := Lib.hid (show IsI l[k].n from ⟨hoo.n1, hoo.n2⟩)
      generalize l[k] = o at *
      obtain ⟨kd, n, dt⟩ := o
      have HN : Hid (IsI n) := HN0
      simp only at c0 c1 c2 hdz
      have J00 : Hid (JB w1 L ρ A q v R wr.heap.size ⟨kd, n, dt⟩ (wr.alloc (.cells #[.int .i64 kd, .int .i64 n, .string dt] 30))) := Lib.hid (JB.new hJ ⟨kd, n, dt⟩)
      have HS := Lib.hid hS; have HB := Lib.hid hB
      have HHI := Lib.hid hJ.c.hi
      have HLI : Hid (∀ t, (A.li t).length ≤ 499999) := Lib.hid fun t => by have := hB.li t; have := hB.n; omega
      have i1 : (k : Int) < len := by omega
      have i2 : ¬ (k : Int) < 0 := by omega
      clear hJ hS hB HJ hoC hoo hlt' HN0
      go_upto_block 2 with fail
      revert J00
      generalize wr.alloc (Obj.cells #[.int .i64 kd, .int .i64 n, .string dt] 30) = W
      generalize wr.heap.size = pb
      intro J0
      clear c0 c1 c2
      go_cut [10, 11, 12, 13] from 24 to 154 (fun v10 v11 v12 v13 wx => Hid (∃ ρ A v R, JB w1 L ρ A q v R pb ⟨kd, n, dt⟩ wx ∧ Sim A R ∧ Bd (k + 1) A R))
      case first =>
        by_cases h0 : kd = 0
        · subst h0
          obtain ⟨c0, c1, c2⟩ := J0.out.cells
          simp only at c0 c1 c2
          have KP := Lib.hid (jb_get J0.out HN.out HLI.out)
          have KD : Hid (∀ ρ1 x1, JB w1 L ρ1 (getA A n) q v R pb ⟨0, n, dt⟩ x1 → Calls Try.prog 10 #[QPt q, .int .i64 n] x1 fun e w' => e = .returned (resG (lookA A n)) ∧ ∃ v' R', JB w1 L ρ1 (getA A n) q v' R' pb ⟨0, n, dt⟩ w' ∧ Sim (getA A n) R' ∧ R'.uses ≤ R.uses + 1) := Lib.hid fun ρ1 x1 h1 => jd_get h1 HS.out HB.out n
          have HUP := Lib.hid (fun t => get_le A n t)
          generalize getA A n = A1 at KP KD HUP
          cases hlk : lookA A n with
          | none =>
            rw [hlk] at KP KD
            simp only [resG] at KP KD
            clear hlk
            go_wp2_with (first
              | (go_at_call 9; (with_reducible refine KP.out.mono ?_); rintro e1 x1 ⟨rfl, ρ1, j1⟩; have J1 := Lib.hid j1; obtain ⟨d0, d1, d2⟩ := j1.cells; simp only at d0 d1 d2; clear j1 c0 c1 c2)
              | (go_at_call 10; (with_reducible refine (KD.out _ _ J1.out).mono ?_); rintro e2 x2 ⟨rfl, v2, R2, j2, s2, u2⟩; have J2 := Lib.hid j2; have S2 := Lib.hid s2; have U2 := Lib.hid u2; clear j2 s2 u2 d0 d1 d2))
            go_meet
            exact Lib.hid ⟨ρ1, _, v2, R2, J2.out, S2.out, HB.out.up (by omega) HUP.out U2.out⟩
          | some dx =>
            obtain ⟨dd, xx⟩ := dx
            rw [hlk] at KP KD
            simp only [resG] at KP KD
            clear hlk
            go_wp2_with (first
              | (go_at_call 9; (with_reducible refine KP.out.mono ?_); rintro e1 x1 ⟨rfl, ρ1, j1⟩; have J1 := Lib.hid j1; obtain ⟨d0, d1, d2⟩ := j1.cells; simp only at d0 d1 d2; clear j1 c0 c1 c2)
              | (go_at_call 10; (with_reducible refine (KD.out _ _ J1.out).mono ?_); rintro e2 x2 ⟨rfl, v2, R2, j2, s2, u2⟩; have J2 := Lib.hid j2; have S2 := Lib.hid s2; have U2 := Lib.hid u2; clear j2 s2 u2 d0 d1 d2))
            go_meet
            exact Lib.hid ⟨ρ1, _, v2, R2, J2.out, S2.out, HB.out.up (by omega) HUP.out U2.out⟩
        by_cases h1 : kd = 1
        · subst h1
          obtain ⟨c0, c1, c2⟩ := J0.out.cells
          simp only at c0 c1 c2
          go_wp2_with (first
            | (go_at_call 11; (with_reducible refine (jb_put J0.out HN.out dt false HLI.out).mono ?_); rintro e1 x1 ⟨rfl, ρ1, j1⟩; have J1 := Lib.hid j1; obtain ⟨d0, d1, d2⟩ := j1.cells; simp only at d0 d1 d2; clear j1 c0 c1 c2)
            | (go_at_call 12; (with_reducible refine (jd_put J1.out HS.out HB.out HHI.out n dt false).mono ?_); rintro e2 x2 ⟨rfl, v2, R2, j2, s2, u2⟩; have J2 := Lib.hid j2; have S2 := Lib.hid s2; have U2 := Lib.hid u2; obtain ⟨f0, f1, f2⟩ := j2.cells; simp only at f0 f1 f2; clear j2 s2 u2 d0 d1 d2)
            | (go_at_call 11; (with_reducible refine (putnil_any n dt false _).mono ?_); rintro e3 x3 ⟨rfl, hw⟩; rw [hw]; clear hw))
          go_meet
          exact Lib.hid ⟨ρ1, _, v2, R2, J2.out, S2.out, HB.out.up (by omega) (fun t => ent_le _ _ _ _ t) U2.out⟩
        by_cases h2 : kd = 2
        · subst h2
          obtain ⟨c0, c1, c2⟩ := J0.out.cells
          simp only at c0 c1 c2
          go_wp2_with (first
            | (go_at_call 11; (with_reducible refine (jb_put J0.out HN.out dt true HLI.out).mono ?_); rintro e1 x1 ⟨rfl, ρ1, j1⟩; have J1 := Lib.hid j1; obtain ⟨d0, d1, d2⟩ := j1.cells; simp only at d0 d1 d2; clear j1 c0 c1 c2)
            | (go_at_call 12; (with_reducible refine (jd_put J1.out HS.out HB.out HHI.out n dt true).mono ?_); rintro e2 x2 ⟨rfl, v2, R2, j2, s2, u2⟩; have J2 := Lib.hid j2; have S2 := Lib.hid s2; have U2 := Lib.hid u2; obtain ⟨f0, f1, f2⟩ := j2.cells; simp only at f0 f1 f2; clear j2 s2 u2 d0 d1 d2)
            | (go_at_call 11; (with_reducible refine (putnil_any n dt true _).mono ?_); rintro e3 x3 ⟨rfl, hw⟩; rw [hw]; clear hw))
          go_meet
          exact Lib.hid ⟨ρ1, _, v2, R2, J2.out, S2.out, HB.out.up (by omega) (fun t => ent_le _ _ _ _ t) U2.out⟩
        by_cases h3 : kd = 3
        · subst h3
          obtain ⟨c0, c1, c2⟩ := J0.out.cells
          simp only at c0 c1 c2
          go_wp2_with (first
            | (go_at_call 13; (with_reducible refine (jb_clean J0.out HN.out HLI.out).mono ?_); rintro e1 x1 ⟨rfl, ρ1, j1⟩; have J1 := Lib.hid j1; obtain ⟨d0, d1, d2⟩ := j1.cells; simp only at d0 d1 d2; clear j1 c0 c1 c2)
            | (go_at_call 14; (with_reducible refine (jd_clean J1.out HS.out HB.out HHI.out n).mono ?_); rintro e2 x2 ⟨rfl, v2, R2, j2, s2, u2⟩; have J2 := Lib.hid j2; have S2 := Lib.hid s2; have U2 := Lib.hid u2; obtain ⟨f0, f1, f2⟩ := j2.cells; simp only at f0 f1 f2; clear j2 s2 u2 d0 d1 d2)
            | (go_at_call 13; (with_reducible refine (cleannil_any n _).mono ?_); rintro e3 x3 ⟨rfl, hw⟩; rw [hw]; clear hw))
          go_meet
          exact Lib.hid ⟨ρ1, _, v2, R2, J2.out, S2.out, HB.out.up (by omega) (fun t => clean_le _ _ t) U2.out⟩
        by_cases h4 : kd = 4
        · subst h4
          obtain ⟨c0, c1, c2⟩ := J0.out.cells
          simp only at c0 c1 c2
          go_wp2_with (first
            | (go_at_call 15; (with_reducible refine (jb_drop J0.out HN.out HLI.out).mono ?_); rintro e1 x1 ⟨rfl, ρ1, j1⟩; have J1 := Lib.hid j1; obtain ⟨d0, d1, d2⟩ := j1.cells; simp only at d0 d1 d2; clear j1 c0 c1 c2)
            | (go_at_call 16; (with_reducible refine (jd_drop J1.out HS.out HB.out n).mono ?_); rintro e2 x2 ⟨rfl, v2, R2, j2, s2, u2⟩; have J2 := Lib.hid j2; have S2 := Lib.hid s2; have U2 := Lib.hid u2; obtain ⟨f0, f1, f2⟩ := j2.cells; simp only at f0 f1 f2; clear j2 s2 u2 d0 d1 d2)
            | (go_at_call 15; (with_reducible refine (dropnil_any n _).mono ?_); rintro e3 x3 ⟨rfl, hw⟩; rw [hw]; clear hw))
          go_meet
          exact Lib.hid ⟨ρ1, _, v2, R2, J2.out, S2.out, HB.out.up (by omega) (fun t => Nat.le_succ_of_le (drop_le _ _ t)) U2.out⟩
        have k0 : (kd == 0) = false := by simpa using h0
        have k1 : (kd == 1) = false := by simpa using h1
        have k2 : (kd == 2) = false := by simpa using h2
        have k3 : (kd == 3) = false := by simpa using h3
        have k4 : (kd == 4) = false := by simpa using h4
        go_wp2
        go_meet
        exact Lib.hid ⟨ρ, A, v, R, J0.out, HS.out, HB.out.up (by omega) (fun t => Nat.le_succ _) (Nat.le_succ _)⟩
      case rest =>
        clear J0 HS HB HHI HLI W
        obtain ⟨ρ2, A2, v2, R2, hJ2, hS2, hB2⟩ := hcut.out
        clear hcut
        obtain ⟨-, c1, -⟩ := hJ2.cells
        simp only at c1
        obtain ⟨a2, cap2, rfl, -⟩ := row_form hJ2.d.row
        have hN : R2.L.length = lenA A2 := hS2.toSim0.len
        have hq2 : wc.drew.cell? ⟨q, 0, none⟩ = some (.slice a2 (lenA A2) cap2) := by
          have := (q_cells hJ2.d).1
          rw [hN] at this
          exact this
        have HJ2 : Hid (JH w1 L ρ2 A2 q (.slice a2 R2.L.length cap2) R2 wc.drew) := Lib.hid (hJ2.toJH.drewN 1)
        have HQC : Hid (∀ x, JH w1 L ρ2 A2 q (.slice a2 R2.L.length cap2) R2 x → x.cell? ⟨q, 0, none⟩ = some (.slice a2 (lenA A2) cap2)) := Lib.hid fun x h => by
          have h9 := (q_cells h.d).1
          rw [hN] at h9
          exact h9
        have hln : lenA A2 ≤ 9000 := by rw [← hN]; exact hB2.len hS2
        have HLI2 : Hid (∀ t, (A2.li t).length ≤ 499999) := Lib.hid fun t => by have := hB2.li t; have := hB2.n; omega
        have HQL : Hid (R2.L.length ≤ 10000) := Lib.hid (by have := hB2.len hS2; omega)
        have HDD := Lib.hid (dirty_sim hS2)
        have HDL : Hid ((dirtyA A2).length ≤ 1000000) := Lib.hid (by
          unfold dirtyA
          rw [List.length_mergeSort, List.length_map]
          have := hB2.li true; have := hB2.n; omega)
        have HS2 := Lib.hid hS2; have HB2 := Lib.hid hB2
        clear hJ2 hS2 hB2
        go_upto_region 31 with (first
          | (go_at_call 9; (with_reducible refine (getnil_any n _).mono ?_); rintro e3 x3 ⟨rfl, hw⟩; rw [hw]; clear hw))
        go_region_held3 (fun W => W.cell? ⟨q, 0, none⟩ = some (.slice a2 (lenA A2) cap2))
          (first | assumption)
          (first
            | (go_at_call 17; (with_reducible refine (lenC_any HJ2.out.c HLI2.out).mono ?_); rintro e4 x4 ⟨rfl, hw⟩; rw [hw]; clear hw)
            | (go_at_call 19; (with_reducible refine (dirty_any HJ2.out.c HLI2.out).mono ?_); rintro e5 x5 ⟨v5, rfl, o5, b5⟩; have O5 := Lib.hid o5; have J5 := Lib.hid (HJ2.out.below b5); have q5 := HQC.out _ J5.out; clear o5 b5)
            | (go_at_call 20; (with_reducible refine (qdirty_any J5.out.d HQL.out).mono ?_); rintro e6 x6 ⟨v6, rfl, o6, b6⟩; have O5b := Lib.hid (own_below O5.out b6); rw [HDD.out] at o6; have O6 := Lib.hid o6; have J6 := Lib.hid (J5.out.below b6); have q6 := HQC.out _ J6.out; clear o6 b6 q5)
            | (go_at_call 18; (with_reducible refine (cints_any O5b.out O6.out HDL.out).mono ?_); rintro e7 x7 ⟨rfl, n7, rfl⟩; have J7 := Lib.hid (J6.out.drewN n7); have q7 := HQC.out _ J7.out)
            | (go_at_call 17; (with_reducible refine (len_nil _).mono ?_); rintro e8 x8 ⟨rfl, hw⟩; rw [hw]; clear hw)
            | (go_at_call 19; (with_reducible refine (dirtynil_any _).mono ?_); rintro e9 x9 ⟨rfl, hw⟩; rw [hw]; clear hw))
        go_wp2
        go_roundw
        case rel => exact ⟨k + 1, by omega, by go_num, Lib.hid ⟨ρ2, A2, _, R2, J7.out, HS2.out, HB2.out⟩⟩
        case measure => simp [intOf]; omega
    · have i1 : ¬ (k : Int) < len := by omega
      obtain ⟨ρ, A, v, R, hJ, -, -⟩ := HJ.out.ex
      have HBL := Lib.hid (B1.out.trans (hJ.bel.mono B1.out.size))
      clear hJ
      go_wp2
      go_ret
      exact ⟨rfl, HBL.out⟩
end Go.Proofs.Ytkpgekfejfbpjaa
