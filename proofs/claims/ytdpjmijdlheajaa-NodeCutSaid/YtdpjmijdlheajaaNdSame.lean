/-
  Layer 16, the law's same (annexelaw16): of a node of the program's and one of the document's that hold the same it says true; it changes nothing that was there. Condition: sizes of at most 2^60.
-/
import Derived.Test.YtdpjmijdlheajaaNdOwn
namespace Go.Proofs.Ytdpjmijdlheajaa
open Go.RowKit

theorem self_eq (K : ByteArray) : (K.toList == K.toList) = true := by simp
set_option maxRecDepth 100000 in
set_option maxHeartbeats 8000000 in
theorem same_leaf (leaf : Bool) (n : Nod) (ca ka da ea : Option Addr) (cc kc dc ec : Nat) (w : World) (hz : NdSz n) (hc : Cls w ca n.cells) (hk : Kds w ka n.kids) (hd : Cls w da n.cells) (he : Kds w ea n.kids) :
    Calls Try.prog 14 #[.agg #[.bool leaf, .slice ca n.cells.length cc, .slice ka n.kids.length kc], .agg #[.bool leaf, .slice da n.cells.length dc, .slice ea n.kids.length ec]] w fun e w' => e = .returned (.bool true) ∧ Below w.heap.size w w' := by
  obtain ⟨len, hlen⟩ : ∃ b, b = n.cells.length := ⟨_, rfl⟩
  obtain ⟨kn, hkn⟩ : ∃ b, b = n.kids.length := ⟨_, rfl⟩
  rw [← hlen, ← hkn]
  have hle : len ≤ 1152921504606846976 := by rw [hlen]; exact hz.cl
  have hke : kn ≤ 1152921504606846976 := by rw [hkn]; exact hz.kl
  have hb := blk_alloc (blk_new w 32 #[.bool leaf, .slice ca len cc, .slice ka kn kc]) (.cells #[.bool leaf, .slice da len dc, .slice ea kn ec] 25)
  have hr := blk_at (w := w.alloc (.cells #[.bool leaf, .slice ca len cc, .slice ka kn kc] 32)) (t := 25) (cs := #[.bool leaf, .slice da len dc, .slice ea kn ec]) (g := w.heap.size + 1) (by simp)
  have hw := blw2 w (.cells #[.bool leaf, .slice ca len cc, .slice ka kn kc] 32) (.cells #[.bool leaf, .slice da len dc, .slice ea kn ec] 25)
  obtain ⟨wa, hwa⟩ : ∃ W, W = (w.alloc (.cells #[.bool leaf, .slice ca len cc, .slice ka kn kc] 32)).alloc (.cells #[.bool leaf, .slice da len dc, .slice ea kn ec] 25) := ⟨_, rfl⟩
  rw [← hwa] at hb hr hw
  have HC1 := Lib.hid (cls_next hc hw); have HK1 := Lib.hid (kds_next hk hw); have HD1 := Lib.hid (cls_next hd hw); have HE1 := Lib.hid (kds_next he hw)
  have HCF := Lib.hid (fun W (hB : Below wa.heap.size wa W) => show (W.cell? ⟨w.heap.size, 0, none⟩ = some (.bool leaf) ∧ W.cell? ⟨w.heap.size, 1, none⟩ = some (.slice ca len cc) ∧ W.cell? ⟨w.heap.size, 2, none⟩ = some (.slice ka kn kc)) ∧ W.cell? ⟨w.heap.size + 1, 0, none⟩ = some (.bool leaf) ∧ W.cell? ⟨w.heap.size + 1, 1, none⟩ = some (.slice da len dc) ∧ W.cell? ⟨w.heap.size + 1, 2, none⟩ = some (.slice ea kn ec) from by
    have h := blk_below hb hB
    have h2 := blk_below hr hB
    exact ⟨⟨blk_cell h 0 rfl, blk_cell h 1 rfl, blk_cell h 2 rfl⟩, blk_cell h2 0 rfl, blk_cell h2 1 rfl, blk_cell h2 2 rfl⟩)
  have HB1 := Lib.hid hw; have HWA := Lib.hid hwa; have HL := Lib.hid hlen; have HK := Lib.hid hkn
  clear hz hlen hkn hc hk hd he hb hr hw hwa
  obtain ⟨⟨j0, j1, j2⟩, l0, l1, l2⟩ := HCF.out _ (Below.refl _ _)
  have hll : (leaf != leaf) = false := by cases leaf <;> rfl
  have hl3 : ((len : Int) != (len : Int)) = false := by simp
  have hl4 : ((kn : Int) != (kn : Int)) = false := by simp
  go_enter Try.func14, Try.ntmps14
  go_upto_region 1 with (fail)
  rw [← HWA.out]
  go_upto_region 3 with (fail)
  clear j0 j1 j2 l0 l1 l2
  go_wp2_with fail
  go_loopw [5] (fun s5 wr => ∃ k : Nat, s5 = .int .i64 k ∧ k ≤ len ∧ Hid (Below wa.heap.size wa wr)) (fun s5 _ => len - (intOf s5).toNat)
  case atStart => exact ⟨0, rfl, by omega, Lib.hid (Below.refl _ _)⟩
  case round =>
    obtain ⟨k, rfl, hk, hB⟩ := hrel
    obtain ⟨⟨j0, j1, j2⟩, l0, l1, l2⟩ := HCF.out _ hB.out
    by_cases hlt : k < len
    · have t1 : (k : Int) < len := by omega
      have hlt' : k < n.cells.length := by have := HL.out; omega
      obtain ⟨b, off, rfl, hbw, c0, c1, c2, c3⟩ := (cls_next HC1.out hB.out) k hlt'
      obtain ⟨b2, off2, rfl, hbw2, d0, d1, d2, d3⟩ := (cls_next HD1.out hB.out) k hlt'
      obtain ⟨x, hx⟩ : ∃ x, x = n.cells[k] := ⟨_, rfl⟩
      rw [← hx] at c0 c1 c2 c3 d0 d1 d2 d3
      obtain ⟨KX, hKX⟩ : ∃ K, K = nb x.key := ⟨_, rfl⟩
      obtain ⟨LX, hLX⟩ : ∃ K, K = nb x.loc := ⟨_, rfl⟩
      rw [← hKX] at c0 d0
      rw [← hLX] at c2 d2
      clear hx hKX hLX
      obtain ⟨nx, hnx⟩ : ∃ z, z = x.len := ⟨_, rfl⟩
      obtain ⟨ox, hox⟩ : ∃ z, z = x.ov := ⟨_, rfl⟩
      rw [← hnx] at c1 d1
      rw [← hox] at c3 d3
      clear hnx hox
      have HG := Lib.hid (fun W (h : Below wr.heap.size wr W) => show ((W.cell? ⟨w.heap.size, 1, none⟩ = some (.slice (some ⟨b, off, none⟩) len cc) ∧ W.cell? ⟨w.heap.size + 1, 1, none⟩ = some (.slice (some ⟨b2, off2, none⟩) len dc)) ∧ (W.cell? ⟨b, off + k * 4, none⟩ = some (.string KX) ∧ W.cell? ⟨b, off + k * 4 + 1, none⟩ = some (.int .i64 nx) ∧ W.cell? ⟨b, off + k * 4 + 2, none⟩ = some (.string LX) ∧ W.cell? ⟨b, off + k * 4 + 3, none⟩ = some (.int .i64 ox)) ∧ (W.cell? ⟨b2, off2 + k * 4, none⟩ = some (.string KX) ∧ W.cell? ⟨b2, off2 + k * 4 + 1, none⟩ = some (.int .i64 nx) ∧ W.cell? ⟨b2, off2 + k * 4 + 2, none⟩ = some (.string LX) ∧ W.cell? ⟨b2, off2 + k * 4 + 3, none⟩ = some (.int .i64 ox))) ∧ Below wr.heap.size wr W from by
        have hh := HCF.out W (hB.out.trans (h.mono hB.out.size))
        exact ⟨⟨⟨hh.1.2.1, hh.2.2.1⟩, ⟨(h.cell (p := ⟨b, off + k * 4, none⟩) hbw).trans c0, (h.cell (p := ⟨b, off + k * 4 + 1, none⟩) hbw).trans c1, (h.cell (p := ⟨b, off + k * 4 + 2, none⟩) hbw).trans c2, (h.cell (p := ⟨b, off + k * 4 + 3, none⟩) hbw).trans c3⟩, (h.cell (p := ⟨b2, off2 + k * 4, none⟩) hbw2).trans d0, (h.cell (p := ⟨b2, off2 + k * 4 + 1, none⟩) hbw2).trans d1, (h.cell (p := ⟨b2, off2 + k * 4 + 2, none⟩) hbw2).trans d2, (h.cell (p := ⟨b2, off2 + k * 4 + 3, none⟩) hbw2).trans d3⟩, h⟩)
      go_upto_region 6 with (fail)
      clear c0 c1 c2 c3 d0 d1 d2 d3 j0 j1 j2 l0 l1 l2
      go_cut [6, 7] from 32 to 81 (fun s6 s7 wx => ∃ gX gY : Nat, s6 = .pointer (some ⟨gX, 0, none⟩) ∧ s7 = .pointer (some ⟨gY, 0, none⟩) ∧ Hid (Blk wx gX 51 #[.string KX, .int .i64 nx, .string LX, .int .i64 ox]) ∧ Hid (Blk wx gY 45 #[.string KX, .int .i64 nx, .string LX, .int .i64 ox]) ∧ Hid (Below wr.heap.size wr wx))
      case first =>
        go_region_held3 (fun W => ((W.cell? ⟨w.heap.size, 1, none⟩ = some (.slice (some ⟨b, off, none⟩) len cc) ∧ W.cell? ⟨w.heap.size + 1, 1, none⟩ = some (.slice (some ⟨b2, off2, none⟩) len dc)) ∧ (W.cell? ⟨b, off + k * 4, none⟩ = some (.string KX) ∧ W.cell? ⟨b, off + k * 4 + 1, none⟩ = some (.int .i64 nx) ∧ W.cell? ⟨b, off + k * 4 + 2, none⟩ = some (.string LX) ∧ W.cell? ⟨b, off + k * 4 + 3, none⟩ = some (.int .i64 ox)) ∧ (W.cell? ⟨b2, off2 + k * 4, none⟩ = some (.string KX) ∧ W.cell? ⟨b2, off2 + k * 4 + 1, none⟩ = some (.int .i64 nx) ∧ W.cell? ⟨b2, off2 + k * 4 + 2, none⟩ = some (.string LX) ∧ W.cell? ⟨b2, off2 + k * 4 + 3, none⟩ = some (.int .i64 ox))) ∧ Below wr.heap.size wr W)
          (first | assumption | exact HG.out _ (Below.refl _ _) | exact HG.out _ (Below.refl _ _).drew | exact HG.out _ (blw1 _ _).drew | exact HG.out _ (blw2 _ _ _).drew | exact HG.out _ (blw1 _ _) | exact HG.out _ (blw2 _ _ _))
          (fail)
        all_goals go_wp2
        all_goals go_meet
        all_goals first
          | exact ⟨wr.heap.size, wr.heap.size + 1, rfl, rfl, Lib.hid (blk_alloc (blk_new wr 51 #[.string KX, .int .i64 nx, .string LX, .int .i64 ox]) _), Lib.hid (blk_at (w := wr.alloc (.cells #[.string KX, .int .i64 nx, .string LX, .int .i64 ox] 51)) (by simp)), Lib.hid (blw2 wr _ _).drew⟩
          | exact ⟨wr.heap.size + 1, wr.heap.size, rfl, rfl, Lib.hid (blk_at (w := wr.alloc (.cells #[.string KX, .int .i64 nx, .string LX, .int .i64 ox] 45)) (by simp)), Lib.hid (blk_alloc (blk_new wr 45 #[.string KX, .int .i64 nx, .string LX, .int .i64 ox]) _), Lib.hid (blw2 wr _ _).drew⟩
      case rest =>
        obtain ⟨gX, gY, rfl, rfl, hX, hY, hB6⟩ := hcut
        have HB6 := Lib.hid (hB.out.trans (hB6.out.mono hB.out.size))
        have c0 := blk_cell hX.out 0 rfl; have c1 := blk_cell hX.out 1 rfl; have c2 := blk_cell hX.out 2 rfl; have c3 := blk_cell hX.out 3 rfl
        have d0 := blk_cell hY.out 0 rfl; have d1 := blk_cell hY.out 1 rfl; have d2 := blk_cell hY.out 2 rfl; have d3 := blk_cell hY.out 3 rfl
        have e1 := self_eq KX
        have e2 := self_eq LX
        have e3 : (nx != nx) = false := by simp
        have e4 : (ox != ox) = false := by simp
        go_wp2
        go_roundw
        case rel => exact ⟨k + 1, by go_num, by omega, HB6⟩
        case measure => simp only [intOf]; omega
    · obtain rfl : k = len := by omega
      have t1 : ¬ (k : Int) < k := by omega
      clear hlt
      go_wp2_with fail
      clear j0 j1 j2 l0 l1 l2
      go_loopw [8] (fun s8 wr => ∃ q : Nat, s8 = .int .i64 q ∧ q ≤ kn ∧ Hid (Below wa.heap.size wa wr)) (fun s8 _ => kn - (intOf s8).toNat)
      case atStart => exact ⟨0, rfl, by omega, hB⟩
      case round =>
        clear hB
        obtain ⟨q, rfl, hq, hB⟩ := hrel
        obtain ⟨⟨j0, j1, j2⟩, l0, l1, l2⟩ := HCF.out _ hB.out
        by_cases hlt : q < kn
        · have t2 : (q : Int) < kn := by omega
          have hlt' : q < n.kids.length := by have := HK.out; omega
          obtain ⟨b, off, rfl, hbw, c0⟩ := (kds_next HK1.out hB.out) q hlt'
          obtain ⟨b2, off2, rfl, hbw2, d0⟩ := (kds_next HE1.out hB.out) q hlt'
          obtain ⟨x, hx⟩ : ∃ x, x = n.kids[q] := ⟨_, rfl⟩
          rw [← hx] at c0 d0
          clear hx
          have e3 : (x != x) = false := by simp
          go_upto_region 12 with (fail)
          go_quiet (fail)
          all_goals go_wp2
          all_goals go_roundw
          all_goals first
            | exact ⟨q + 1, by go_num, by omega, Lib.hid (hB.out.trans ⟨rfl, rfl, rfl, Nat.le_refl _, fun _ _ => rfl⟩)⟩
            | (simp only [intOf]; omega)
        · obtain rfl : q = kn := by omega
          have t2 : ¬ (q : Int) < q := by omega
          have HBW := Lib.hid (HB1.out.trans (hB.out.mono HB1.out.size))
          clear hlt
          go_upto_region 14 with (fail)
          repeat go_step
          go_ret
          exact ⟨rfl, HBW.out⟩
theorem same_any (n : Nod) (ca ka da ea : Option Addr) (cc kc dc ec : Nat) (w : World) (hz : NdSz n) (hc : Cls w ca n.cells) (hk : Kds w ka n.kids) (hd : Cls w da n.cells) (he : Kds w ea n.kids) :
    Calls Try.prog 14 #[.agg #[.bool n.leaf, .slice ca n.cells.length cc, .slice ka n.kids.length kc], .agg #[.bool n.leaf, .slice da n.cells.length dc, .slice ea n.kids.length ec]] w fun e w' => e = .returned (.bool true) ∧ Below w.heap.size w w' :=
  same_leaf n.leaf n ca ka da ea cc kc dc ec w hz hc hk hd he
end Go.Proofs.Ytdpjmijdlheajaa
