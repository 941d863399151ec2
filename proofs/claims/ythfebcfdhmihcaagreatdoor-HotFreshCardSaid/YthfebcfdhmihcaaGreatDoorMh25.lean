/-
  Layer 13: the statement HotFresh, walked: true for all files and every path. Condition: the memory's own bounds.
-/
import Derived.Test.YthfebcfdhmihcaaGreatDoorMh23
namespace Go.Proofs.YthfebcfdhmihcaaGreatDoor
open Go.RowKit
variable {P : Nat → Prop} {ea : Addr} {b n m : Nat} {l : List F13} {Q : PQ} {w : World}

/-- The state of a file beside one journal, and beside it and an empty file. -/
theorem two_files {W : World} {g : Nat} {t : TypeId} {f h : F13} (hb : Blk W g t #[.string (ba f.1), .string (ba f.2), .string (ba h.1), .string (ba h.2)]) : Fls W (some ⟨g, 0, none⟩) [f, h] := by
  intro j hj
  match j, hj with
  | 0, _ => exact ⟨_, 0, rfl, blk_lt hb, blk_cell hb 0 rfl, blk_cell hb 1 rfl⟩
  | 1, _ => exact ⟨_, 0, rfl, blk_lt hb, blk_cell hb 2 rfl, blk_cell hb 3 rfl⟩
theorem one_file {W : World} {g : Nat} {t : TypeId} {f : F13} (hb : Blk W g t #[.string (ba f.1), .string (ba f.2)]) : Fls W (some ⟨g, 0, none⟩) [f] := by
  intro j hj
  match j, hj with
  | 0, _ => exact ⟨_, 0, rfl, blk_lt hb, blk_cell hb 0 rfl, blk_cell hb 1 rfl⟩

theorem tot_step {k t t' : Nat} (h1 : t ≤ 30000 + 1024000 * k) (h2 : t' ≤ t + 1024000) : t' ≤ 30000 + 1024000 * (k + 1) := by rw [Nat.mul_succ]; exact Nat.le_trans h2 (by rw [← Nat.add_assoc]; exact Nat.add_le_add_right h1 _)
theorem tot_up {k t : Nat} (h1 : t ≤ 30000 + 1024000 * k) : t ≤ 30000 + 1024000 * (k + 1) := Nat.le_trans h1 (Nat.add_le_add_left (Nat.mul_le_mul_left _ (Nat.le_succ k)) _)
set_option maxRecDepth 100000 in
set_option maxHeartbeats 4000000 in
theorem hotfresh_any (a : Option Addr) (cap : Nat) (l : List F13) (p q : List UInt8) (w : World) (hl : l.length ≤ 9223372036854775807) (hz : SzF l) (hp : p.length ≤ 1152921504606846976) (hq : q.length ≤ 1152921504606846976) (ha : Fls w a l) (hg : Gl ea w) (hn : 6 ≤ w.heap.size) :
    Calls Tryz.prog 4 #[.slice a l.length cap, .string (ba p), .string (ba q)] w fun e w' => e = .returned (.bool true) ∧ Below w.heap.size w w' := by
  have HW := Lib.hid (works13_any w hg hn)
  have HG := Lib.hid (fun W (hB : Below w.heap.size w W) => great13_any a cap l W hl hz (fls_next ha hB))
  have HLA := Lib.hid (fun W (hB : Below w.heap.size w W) h1 h2 => laid_law (ea := ea) a cap l W h1 h2 (fls_next ha hB) (gl_keep hg fun k hk => hB.block k (by omega)) (by have := hB.size; omega))
  have hps := ba_size p
  have hqs := ba_size q
  rw [← hps] at hp
  rw [← hqs] at hq
  have HPS := Lib.hid hps
  have HQS := Lib.hid hqs
  obtain ⟨len, hlen⟩ : ∃ len, len = l.length := ⟨_, rfl⟩
  rw [← hlen] at HG HLA ⊢
  have HLEN := Lib.hid hlen
  clear ha hg hn hz hl hps hqs hlen
  go_enter Tryz.func4, Tryz.ntmps4
  by_cases h100 : 100 < (ba p).size
  · have t0 : (100 : Int) < ((ba p).size : Int) := by omega
    go_wp2_with (first
      | (go_at_call 5; go_must ((with_reducible refine HW.out.mono ?_); rintro e w1 ⟨rfl, hB⟩; have HB1 := Lib.hid hB; clear hB))
      | (go_at_call 6; go_must ((with_reducible refine (HG.out _ HB1.out).mono ?_); rintro e w2 ⟨z, rfl, -, hB⟩; have HB2 := Lib.hid (HB1.out.trans (hB.mono HB1.out.size)); clear hB; cases z)))
    all_goals go_ret
    all_goals exact ⟨rfl, HB2.out⟩
  by_cases h101 : 100 < (ba q).size
  · have t0 : ¬ (100 : Int) < ((ba p).size : Int) := by omega
    have t1 : (100 : Int) < ((ba q).size : Int) := by omega
    go_wp2_with (first
      | (go_at_call 5; go_must ((with_reducible refine HW.out.mono ?_); rintro e w1 ⟨rfl, hB⟩; have HB1 := Lib.hid hB; clear hB))
      | (go_at_call 6; go_must ((with_reducible refine (HG.out _ HB1.out).mono ?_); rintro e w2 ⟨z, rfl, -, hB⟩; have HB2 := Lib.hid (HB1.out.trans (hB.mono HB1.out.size)); clear hB; cases z)))
    all_goals go_ret
    all_goals exact ⟨rfl, HB2.out⟩
  · have t0 : ¬ (100 : Int) < ((ba p).size : Int) := by omega
    have t1 : ¬ (100 : Int) < ((ba q).size : Int) := by omega
    go_upto_region 5 with (first
      | (go_at_call 5; go_must ((with_reducible refine HW.out.mono ?_); rintro e w1 ⟨rfl, hB⟩; have HB1 := Lib.hid hB; clear hB))
      | (go_at_call 6; go_must ((with_reducible refine (HG.out _ HB1.out).mono ?_); rintro e w2 ⟨z, rfl, hgr, hB⟩; have HB2 := Lib.hid (HB1.out.trans (hB.mono HB1.out.size)); have HGR := Lib.hid hgr; clear hB hgr; cases z)))
    · obtain ⟨hgl, hgt⟩ := HGR.out (by trivial)
      have hgl2 : len ≤ 13 := by have := HLEN.out; omega
      have hp100 : p.length ≤ 100 := by have := HPS.out; omega
      have hq100 : q.length ≤ 100 := by have := HQS.out; omega
      have hgl3 : l.length ≤ 13 := by have := HLEN.out; omega
      have HRO := Lib.hid (show RecOk (layF l) q from lay_recok hgl3 hgt (by omega))
      have HLL := Lib.hid (show (layF l).length ≤ 13 from Nat.le_trans (lay_len l) hgl3)
      have HT := Lib.hid (show totF (layF l) ≤ 30000 from Nat.le_trans (lay_tot l) hgt)
      have HGT := Lib.hid hgt
      clear HGR hgt hgl hgl3
      go_upto_region 8 with (go_at_call 7; go_must ((with_reducible refine (HLA.out _ HB2.out hgl2 HGT.out).mono ?_); rintro e w3 hq; unfold LaidQ at hq; rcases hq with ⟨rfl, hB⟩ | ⟨b, P, rfl, hPP, hD, hDi, hB⟩; have HB3 := Lib.hid (HB2.out.trans (hB.mono HB2.out.size))))
      · go_ret
        exact ⟨rfl, HB3.out⟩
      have HB3 := Lib.hid (HB2.out.trans (hB.mono HB2.out.size))
      have HPP := Lib.hid (fun k (hk : k < w.heap.size) => hPP k (Nat.lt_of_lt_of_le hk HB2.out.size))
      have HD := Lib.hid hD
      clear HW HG HLA hB hD hDi hPP HB1 HB2
      go_wp2
      go_loopw [9] (fun i wr => ∃ (k : Nat) (L : List F13), k ≤ 2 ∧ i = .int .i64 k ∧ Hid (Dk P ea b (1000 + 14000 * k) 0 L QD wr) ∧ Hid (RecOk L q) ∧ Hid (L.length ≤ 13 + k) ∧ Hid (totF L ≤ 30000 + 1024000 * k) ∧ Hid (Fr P w3 wr)) (fun i _ => 2 - (intOf i).toNat)
      case atStart => exact ⟨0, layF l, by omega, rfl, Lib.hid (dk_nd HD.out), HRO, Lib.hid HLL.out, Lib.hid HT.out, Lib.hid (Fr.refl _ _)⟩
      case round =>
        obtain ⟨k, L, hk, rfl, hD, hRO, hLL, hTT, hF⟩ := hrel
        clear HD HRO HLL HT
        by_cases hk2 : k < 2
        · have t2 : (k : Int) < 2 := by omega
          have hll := hLL.out
          have HSR := Lib.hid (dk_srt hD.out)
          have HFR := Lib.hid (hfresh_any hD.out p (by omega) (by omega) hRO.out.sml (fun f hf => Nat.le_trans (hRO.out.names f hf) (by decide)) (by omega))
          have hfl := fre_len L p
          by_cases hfz : freF L p = []
          · have e1 : freV L p = .tuple #[.string ⟨#[]⟩, .int .i64 6] := by unfold freV; rw [hfz]; rfl
            rw [e1] at HFR
            clear e1 hfl hfz hll
            go_wp2_with (go_at_call 10; (with_reducible refine HFR.out.mono ?_); rintro e w4 ⟨rfl, hD4, hF4⟩; have HB4 := Lib.hid (below_fr ((hF.out.trans hF4).mono HPP.out)); clear hD4 hF4)
            go_ret
            exact ⟨rfl, HB3.out.trans (HB4.out)⟩
          · have e1 : freV L p = .tuple #[.string (ba (freF L p)), .int .i64 0] := by unfold freV; rw [if_neg hfz]
            rw [e1] at HFR
            obtain ⟨f1, f2, f3⟩ := fre_ok hfz
            obtain ⟨s, hs⟩ : ∃ s, s = freF L p := ⟨_, rfl⟩
            rw [← hs] at HFR f1 f2 f3 hfl
            have HSU := Lib.hid (fun W hT => hsuper_any s (by omega) W hT)
            rw [f1] at HSU
            have HNO := Lib.hid f3
            have HLK := Lib.hid f2
            have hsl : s.length ≤ 123 := by omega
            obtain ⟨z, hz⟩ : ∃ z, z = decide (p ≠ []) := ⟨_, rfl⟩
            rw [← hz] at HSU
            have HZ := Lib.hid hz
            clear e1 hfl hfz f1 f2 f3 hs hll hz
            go_upto_region 14 with (go_at_call 10; (with_reducible refine HFR.out.mono ?_); rintro e w4 ⟨rfl, hD4, hF4⟩; have HD4 := Lib.hid hD4; have HF4 := Lib.hid (hF.out.trans hF4); clear hD4 hF4)
            clear HFR hD
            have hc := dk_content HD4.out s (by omega)
            rw [HLK.out] at hc
            simp only [Option.getD_none, Option.isSome_none] at hc
            have HC := Lib.hid hc
            clear hc
            go_upto_region 15 with (go_at_call 19; (with_reducible refine HC.out.mono ?_); rintro e w5 ⟨rfl, rfl⟩)
            clear HC
            go_upto_region 16 with (go_at_call 11; (with_reducible refine (HSU.out _ HD4.out.gl.tab).mono ?_); rintro e w6 ⟨rfl, hB6⟩; have HD6 := Lib.hid (dk_below HD4.out hB6); have HF6 := Lib.hid (HF4.out.trans (dk_fr HD4.out hB6)); clear hB6)
            clear HSU HD4 HF4
            have HN := Lib.hid (dk_names HD6.out)
            go_cut [78] from 67 to 79 (fun v wx => v = .bool false ∧ wx = w6)
            case first =>
              have te : (ba p).toList.isEmpty = !z := by
                have e : (ba p).toList = p := by rw [ByteArray.toList_eq, ba_list]
                rw [e, HZ.out]
                cases p <;> rfl
              have te2 : ((ba p).toList != []) = z := by
                have e : (ba p).toList = p := by rw [ByteArray.toList_eq, ba_list]
                rw [e, HZ.out]
                cases p <;> rfl
              clear HZ
              go_wp2
              all_goals go_meet
              all_goals exact ⟨rfl, rfl⟩
            case rest =>
              obtain ⟨rfl, rfl⟩ := hcut
              clear HZ
              have hll : (L.map (·.1)).length = L.length := List.length_map _
              obtain ⟨NL, hNL⟩ : ∃ NL, NL = L.map (·.1) := ⟨_, rfl⟩
              rw [← hNL] at hll HN
              have HNL := Lib.hid hNL
              obtain ⟨nn, hnn⟩ : ∃ nn, nn = L.length := ⟨_, rfl⟩
              rw [← hnn] at hll
              have HLN := Lib.hid hll
              have HNN := Lib.hid hnn
              have hnb : nn ≤ 15 := by have := hLL.out; omega
              clear hNL hll hnn
              go_upto_region 19 with (go_at_call 20; (with_reducible refine HN.out.mono ?_); rintro e w7 ⟨x, rfl, hNR, hB7, -⟩; obtain ⟨a2, cap2, hxe, hST⟩ := name_strs hNR; rw [HLN.out] at hxe; subst hxe; have HD7 := Lib.hid (dk_below HD6.out hB7); have HF7 := Lib.hid (HF6.out.trans (dk_fr HD6.out hB7)); have HST := Lib.hid hST; clear hNR hB7 hST)
              clear HN HD6 HF6
              go_wp2
              go_loopw [17] (fun i wr2 => ∃ k2 : Nat, k2 ≤ nn ∧ i = .int .i64 k2 ∧ Hid (Below w7.heap.size w7 wr2)) (fun i _ => nn - (intOf i).toNat)
              case atStart => exact ⟨0, by omega, rfl, Lib.hid (Below.refl _ _)⟩
              case round =>
                obtain ⟨k2, hkk2, rfl, hB2⟩ := hrel
                by_cases hlt : k2 < nn
                · have hlt' : k2 < L.length := by have := HNN.out; omega
                  have hltL : k2 < NL.length := by have := HLN.out; omega
                  obtain ⟨gA, oA, rfl, hgA, c2⟩ := (strs_below HST.out hB2.out) k2 hltL
                  have hLk : NL[k2] = L[k2].1 := by simp [HNL.out]
                  rw [hLk] at c2
                  have hlk := mem_look HSR.out (List.getElem_mem hlt')
                  have hx1 := hRO.out.names _ (List.getElem_mem hlt')
                  have hx2 := hRO.out.sml _ (List.getElem_mem hlt')
                  have hno := HNO.out _ (List.getElem_mem hlt')
                  have hC := dk_content (dk_below HD7.out hB2.out) L[k2].1 (by omega)
                  rw [hlk] at hC
                  simp only [Option.getD_some, Option.isSome_some] at hC
                  have t3 : (k2 : Int) < nn := by omega
                  obtain ⟨x, hx⟩ : ∃ x, x = L[k2] := ⟨_, rfl⟩
                  rw [← hx] at c2 hC hx1 hx2 hno
                  have hsz := ba_size x.1
                  have hdr := fun kk (h : kk = x.1.length - 2) => show ((ba x.1).extract kk (ba x.1).size).toList = x.1.drop (x.1.length - 2) by rw [h, hsext_drop, ByteArray.toList_eq, ba_list]
                  obtain ⟨Y, hY⟩ : ∃ Y, Y = ba x.1 := ⟨_, rfl⟩
                  rw [← hY] at c2 hsz hdr hC
                  have HC := Lib.hid hC
                  have w0 : IntKind.i64.wrap ((Y.size : Int) - 2) = (Y.size : Int) - 2 := IntWalk.i64_in _ ⟨by omega, by omega⟩
                  have HY := Lib.hid hY
                  clear hx hlk hLk hlt' hltL hC hY
                  by_cases h3 : x.1.length < 3
                  · have g1 : (Y.size : Int) - 2 < 1 := by omega
                    have g1' : ¬ (1 : Int) ≤ (Y.size : Int) - 2 := by omega
                    have g1'' : decide ((1 : Int) ≤ (Y.size : Int) - 2) = false := decide_eq_false g1'
                    clear h3 hsz hdr hno
                    go_upto_region 24 with (go_at_call 19; (with_reducible refine HC.out.mono ?_); rintro e w8 ⟨rfl, rfl⟩)
                    go_quiet (fail)
                    all_goals go_wp2
                    all_goals go_roundw
                    all_goals first
                      | exact ⟨k2 + 1, by omega, by go_num, Lib.hid (hB2.out.trans ⟨rfl, rfl, rfl, Nat.le_refl _, fun _ _ => rfl⟩)⟩
                      | (simp [intOf]; omega)
                  · obtain ⟨kk, hkk⟩ : ∃ kk : Nat, kk = Y.size - 2 := ⟨_, rfl⟩
                    have hK : (Y.size : Int) - 2 = (kk : Int) := by omega
                    rw [hK] at w0
                    have g1 : ¬ (kk : Int) < 1 := by omega
                    have g1' : (1 : Int) ≤ (kk : Int) := by omega
                    have g2 : (kk : Int) ≤ Y.size := by omega
                    have g3 : kk ≤ Y.size := by omega
                    have hd2 := hdr kk (by omega)
                    clear hdr
                    by_cases hj2 : x.1.drop (x.1.length - 2) = jx
                    · have e2 : ((Y.extract kk Y.size).toList == [45, 106]) = true := by rw [hd2, hj2]; rfl
                      have hst := sta_pair h3 hj2 hno
                      obtain ⟨c, hc⟩ : ∃ c, c = x.1.take (x.1.length - 2) := ⟨_, rfl⟩
                      rw [← hc] at hst
                      obtain ⟨r, hr⟩ : ∃ r, r = staF [x] c := ⟨_, rfl⟩
                      have hcl : c.length ≤ 30000 := by rw [hc, List.length_take]; omega
                      have hcb : Y.extract 0 kk = ba c := by rw [HY.out, hsext_take, hc, hkk, hsz]
                      obtain ⟨C, hC⟩ : ∃ C, C = ba c := ⟨_, rfl⟩
                      have hsm2 : SmlF [x, (s, [])] := fun f hf => by
                        rcases List.mem_cons.1 hf with rfl | hf
                        · exact hx2
                        · rw [List.mem_singleton.1 hf]; exact Nat.zero_le _
                      have hsm1 : SmlF [x] := fun f hf => by rw [List.mem_singleton.1 hf]; exact hx2
                      have k1 := fun W g (hb : Blk W g 46 #[.string (ba x.1), .string (ba x.2), .string (ba s), .string ⟨#[]⟩]) => show Calls Tryz.prog 14 #[.slice (some ⟨g, 0, none⟩) 2 2, .string (ba c)] W (fun e w' => e = .returned (.int .i64 (staF [x, (s, [])] c)) ∧ Below W.heap.size W w') from state13_any (some ⟨g, 0, none⟩) 2 [x, (s, [])] c W (show 2 ≤ 4611686018427387904 by omega) (by omega) hsm2 (two_files (f := x) (h := (s, [])) hb)
                      have k2' := fun W g (hb : Blk W g 46 #[.string (ba x.1), .string (ba x.2)]) => show Calls Tryz.prog 14 #[.slice (some ⟨g, 0, none⟩) 1 1, .string (ba c)] W (fun e w' => e = .returned (.int .i64 (staF [x] c)) ∧ Below W.heap.size W w') from state13_any (some ⟨g, 0, none⟩) 1 [x] c W (show 1 ≤ 4611686018427387904 by omega) (by omega) hsm1 (one_file (f := x) hb)
                      rw [hst, ← hr, ← HY.out, ← hC] at k1
                      rw [← hr, ← HY.out, ← hC] at k2'
                      rw [← hC] at hcb
                      have K1 := Lib.hid k1
                      have K2 := Lib.hid k2'
                      clear k1 k2' hc hst hr hC hsm1 hsm2 hd2 hj2 h3 hno hsz hkk
                      go_upto_region 24 with (go_at_call 19; (with_reducible refine HC.out.mono ?_); rintro e w8 ⟨rfl, rfl⟩)
                      have HG := Lib.hid (fun W (h : Below w8.heap.size w8 W) => show W.cell? ⟨gA, oA + k2, none⟩ = some (.string Y) ∧ Below w8.heap.size w8 W from ⟨(h.cell (p := ⟨gA, oA + k2, none⟩) hgA).trans c2, h⟩)
                      go_region_held3 (fun v => v.cell? ⟨gA, oA + k2, none⟩ = some (.string Y) ∧ Below w8.heap.size w8 v)
                        (first | assumption | exact HG.out _ (Below.refl _ _) | exact HG.out _ (Below.refl _ _).drew | exact HG.out _ ((Below.refl _ _).alloc (Nat.le_refl _) _) | exact HG.out _ (Below.alloc (And.right (by assumption)) (Below.size (And.right (by assumption))) _) | exact HG.out _ (Below.trans (And.right (by assumption)) (Below.mono (by assumption) (Below.size (And.right (by assumption))))))
                        (first
                          | (go_at_call 14; (with_reducible refine (K1.out _ _ ?_).mono ?_); (first | (with_reducible exact blk_drew (blk_new _ _ _)) | (with_reducible exact blk_drew (blk_alloc (blk_new _ _ _) _)) | ((with_reducible refine blk_drew (blk_at ?_)); simp)); rintro e w9 ⟨rfl, hb9⟩)
                          | (go_at_call 14; (with_reducible refine (K2.out _ _ ?_).mono ?_); (first | (with_reducible exact blk_new _ _ _) | (with_reducible exact blk_drew (blk_new _ _ _)) | ((with_reducible refine blk_below (blk_drew (blk_at ?_)) hb9); simp) | (with_reducible exact blk_below (blk_drew (blk_alloc (blk_new _ _ _) _)) hb9) | (with_reducible exact blk_below (blk_drew (blk_new _ _ _)) hb9)); rintro e w10 ⟨rfl, hb10⟩))
                      all_goals (have hBx := (‹World.cell? _ _ = some (.string Y) ∧ Below w8.heap.size w8 _›).2)
                      all_goals go_wp2
                      all_goals go_roundw
                      all_goals first
                        | exact ⟨k2 + 1, by omega, by go_num, Lib.hid (hB2.out.trans (hBx.mono hB2.out.size))⟩
                        | (simp [intOf]; omega)
                    · have e2 : ((Y.extract kk Y.size).toList == [45, 106]) = false := by
                        rw [hd2]
                        simpa [jx] using hj2
                      clear hd2 hj2 h3 hsz hkk hno
                      go_upto_region 24 with (go_at_call 19; (with_reducible refine HC.out.mono ?_); rintro e w8 ⟨rfl, rfl⟩)
                      go_quiet (fail)
                      all_goals go_wp2
                      all_goals go_roundw
                      all_goals first
                        | exact ⟨k2 + 1, by omega, by go_num, Lib.hid (hB2.out.trans ⟨rfl, rfl, rfl, Nat.le_refl _, fun _ _ => rfl⟩)⟩
                        | (simp [intOf]; omega)
                · obtain rfl : k2 = nn := by omega
                  have t3 : ¬ (k2 : Int) < k2 := by omega
                  have HRE := Lib.hid (recover_any (dk_below HD7.out hB2.out) hRO.out (by have := hLL.out; omega))
                  have HF8 := Lib.hid (HF7.out.trans (dk_fr HD7.out hB2.out))
                  go_wp2_with (go_at_call 15; go_must ((with_reducible refine HRE.out.mono ?_); rintro e w9 hq; unfold RecV at hq; rcases hq with ⟨rfl, hD9, hF9⟩ | ⟨rfl, hD9, hF9⟩))
                  · have hl1 := hLL.out
                    have ht1 := hTT.out
                    have hl2 := rec_len (p := q) HSR.out
                    have ht2 := rec_tot (p := q) HSR.out
                    have H1 := Lib.hid (show Dk P ea b (1000 + 14000 * (k + 1)) 0 (recF L q) QD w9 from dk_up (dk_nd hD9) (by omega) (by omega))
                    have H2 := Lib.hid (show RecOk (recF L q) q from rec_ok HSR.out hRO.out (by omega) (by omega) (by omega))
                    have H3 := Lib.hid (show (recF L q).length ≤ 13 + (k + 1) by omega)
                    have H4 := Lib.hid (tot_step ht1 ht2)
                    have H5 := Lib.hid (HF8.out.trans hF9)
                    clear hl1 ht1 hl2 ht2 hD9 hF9
                    go_roundw
                    case rel => exact ⟨k + 1, recF L q, by omega, by go_num, H1, H2, H3, H4, H5⟩
                    case measure => simp [intOf]; omega
                  · have hl1 := hLL.out
                    have ht1 := hTT.out
                    have H1 := Lib.hid (show Dk P ea b (1000 + 14000 * (k + 1)) 0 L QD w9 from dk_up hD9 (by omega) (by omega))
                    have H3 := Lib.hid (show L.length ≤ 13 + (k + 1) by omega)
                    have H4 := Lib.hid (tot_up ht1)
                    have H5 := Lib.hid (HF8.out.trans hF9)
                    clear hl1 ht1 hD9 hF9
                    go_roundw
                    case rel => exact ⟨k + 1, L, by omega, by go_num, H1, hRO, H3, H4, H5⟩
                    case measure => simp [intOf]; omega
        · obtain rfl : k = 2 := by omega
          have t2 : ¬ (2 : Int) < 2 := by omega
          go_wp2
          go_ret
          exact ⟨rfl, HB3.out.trans (below_fr (hF.out.mono HPP.out))⟩
    · go_wp2
      go_ret
      exact ⟨rfl, HB2.out⟩
end Go.Proofs.YthfebcfdhmihcaaGreatDoor
