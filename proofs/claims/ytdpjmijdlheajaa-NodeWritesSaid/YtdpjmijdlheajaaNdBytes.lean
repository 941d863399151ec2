/-
  Layer 16, the document's bytes (annexeref16): the bytes of a node that may be; it changes nothing that was there. Condition: sizes of at most 2^60; the node may be.
-/
import Derived.Test.YtdpjmijdlheajaaNdRight
namespace Go.Proofs.Ytdpjmijdlheajaa
open Go.RowKit

theorem nfour_any (n : Int) (h1 : 0 ≤ n) (h2 : n ≤ 2000) (w : World) :
    Calls Try.prog 42 #[.int .i64 n] w fun e w' => e = .returned (.string (nb (fourL n.toNat))) ∧ Below w.heap.size w w' := by
  have h : (fixR n).1 = fourL n.toNat := by unfold fixR; rw [if_pos ⟨h1, by omega⟩]
  go_enter Try.func42, Try.ntmps42
  go_wp2_with (go_at_call 61; refine (rfixed_any n (by omega) (by omega) _).mono ?_; rintro e w' ⟨rfl, hb⟩)
  go_ret
  exact ⟨by rw [← h]; rfl, hb⟩
theorem new3b (W : World) (a b c : Value) (t : TypeId) (j : Nat) (hj : j < 3) : (W.alloc (.cells #[a, b, c] t)).cell? ⟨W.heap.size, j, none⟩ = some ([a, b, c].getD j a) :=
  (World.rowIs_alloc W #[a, b, c] t (fun j => [a, b, c].getD j a) (fun i hi => by
    match i, hi with
    | 0, _ => rfl
    | 1, _ => rfl
    | 2, _ => rfl
    | i + 3, hi => simp at hi; omega)).cell hj
theorem three_str (w : World) (g : Nat) (hg : g = w.heap.size) (x y z : Int) (a b c : Nat) (hx : x = (a : Int)) (hy : y = (b : Int)) (hz : z = (c : Int)) (ha : a < 256) (hb : b < 256) (hc : c < 256) :
    (convert 56 9 (.slice (some ⟨g, 0, none⟩) 3 3)).run Try.prog (w.alloc (.cells #[.int .u8 x, .int .u8 y, .int .u8 z] 5)) = .ok (.string (nb [a.toUInt8, b.toUInt8, c.toUInt8])) (w.alloc (.cells #[.int .u8 x, .int .u8 y, .int .u8 z] 5)) := by
  subst hg
  refine run_convert_bytes_back (P := Try.prog) (w.alloc (.cells #[.int .u8 x, .int .u8 y, .int .u8 z] 5)) 56 9 5 ⟨w.heap.size, 0, none⟩ 3 [a.toUInt8, b.toUInt8, c.toUInt8] Try.underlying56 Try.underlying5 Try.underlying9 (fun j hj => ?_)
  have hj3 : j < 3 := hj
  rw [Addr.add_lit, Nat.zero_add, new3b _ _ _ _ _ j hj3]
  match j, hj3, hj with
  | 0, _, _ => show some (Value.int .u8 x) = some (.int .u8 (a.toUInt8.toNat : Int)); rw [u8_of ha, hx]
  | 1, _, _ => show some (Value.int .u8 y) = some (.int .u8 (b.toUInt8.toNat : Int)); rw [u8_of hb, hy]
  | 2, _, _ => show some (Value.int .u8 z) = some (.int .u8 (c.toUInt8.toNat : Int)); rw [u8_of hc, hz]
theorem nput_any (k : Nat) (h : k < 18446744073709551616) (w : World) :
    Calls Try.prog 43 #[.int .u64 (k : Int)] w fun e w' => e = .returned (.string (nb (putLV k))) ∧ Below w.heap.size w w' := rput_any (k : Int) (by omega) (by omega) w
theorem take_snoc {α : Type} {l : List α} {k : Nat} (h : k < l.length) : l.take (k + 1) = l.take k ++ [l[k]] := List.take_succ_eq_append_getElem h
set_option maxRecDepth 100000 in
set_option maxHeartbeats 4000000 in
theorem rbytes_leaf (leaf : Bool) (n : Nod) (hlf : leaf = n.leaf) (ca ka : Option Addr) (cc kc : Nat) (w : World) (hr : RightN n) (_hz : NdSz n) (hc : Cls w ca n.cells) (hk : Kds w ka n.kids) :
    Calls Try.prog 22 #[.agg #[.bool leaf, .slice ca n.cells.length cc, .slice ka n.kids.length kc]] w fun e w' => e = .returned (.string (nb (encN n))) ∧ Below w.heap.size w w' := by
  obtain ⟨len, hlen⟩ : ∃ b, b = n.cells.length := ⟨_, rfl⟩
  obtain ⟨kn, hkn⟩ : ∃ b, b = n.kids.length := ⟨_, rfl⟩
  rw [← hlen, ← hkn]
  have hle : len ≤ 65535 := by have := hr.2.2.1; omega
  have hke : kn ≤ 65536 := by
    cases h : n.leaf with
    | true => have := hr.2.2.2.1 h; omega
    | false => have := hr.2.2.2.2 h; omega
  have HLF := Lib.hid hlf; have HL := Lib.hid hlen; have HK := Lib.hid hkn; have HR := Lib.hid hr
  have HC := Lib.hid hc; have HKD := Lib.hid hk
  clear _hz hlf hlen hkn hc hk hr
  have hcv := three_str (w.alloc (.cells #[.bool leaf, .slice ca len cc, .slice ka kn kc] 25)) (w.heap.size + 1) (by simp) (if leaf = true then 1 else 2) ((len : Int) / 256) ((len : Int) % 256) (if leaf = true then 1 else 2) (len / 256) (len % 256) (by split <;> rfl) (by omega) (by omega) (by split <;> omega) (by omega) (by omega)
  have HH := Lib.hid (show headL n = [(if leaf = true then 1 else 2 : Nat).toUInt8, (len / 256).toUInt8, (len % 256).toUInt8] from by
    unfold headL
    rw [← HLF.out, ← HL.out]
    cases leaf <;> rfl)
  obtain ⟨S0, hS0⟩ : ∃ S0, S0 = nb [(if leaf = true then 1 else 2 : Nat).toUInt8, (len / 256).toUInt8, (len % 256).toUInt8] := ⟨_, rfl⟩
  rw [← hS0] at hcv
  have hs0 : S0.size = 3 := by rw [hS0, nb_size]; rfl
  have HS0 := Lib.hid (show S0 = nb (headL n) by rw [hS0, HH.out])
  have hb := blk_alloc (blk_new w 25 #[.bool leaf, .slice ca len cc, .slice ka kn kc]) (.cells #[.int .u8 (if leaf = true then 1 else 2), .int .u8 ((len : Int) / 256), .int .u8 ((len : Int) % 256)] 5)
  have hw := blw2 w (.cells #[.bool leaf, .slice ca len cc, .slice ka kn kc] 25) (.cells #[.int .u8 (if leaf = true then 1 else 2), .int .u8 ((len : Int) / 256), .int .u8 ((len : Int) % 256)] 5)
  obtain ⟨w1, hw1⟩ : ∃ w1, w1 = (w.alloc (.cells #[.bool leaf, .slice ca len cc, .slice ka kn kc] 25)).alloc (.cells #[.int .u8 (if leaf = true then 1 else 2), .int .u8 ((len : Int) / 256), .int .u8 ((len : Int) % 256)] 5) := ⟨_, rfl⟩
  rw [← hw1] at hw hb
  have HC1 := Lib.hid (cls_next HC.out hw); have HK1 := Lib.hid (kds_next HKD.out hw); have HB1 := Lib.hid hw
  have HCF := Lib.hid (fun W (hB : Below w1.heap.size w1 W) => show W.cell? ⟨w.heap.size, 0, none⟩ = some (.bool leaf) ∧ W.cell? ⟨w.heap.size, 1, none⟩ = some (.slice ca len cc) ∧ W.cell? ⟨w.heap.size, 2, none⟩ = some (.slice ka kn kc) from by
    have h := blk_below hb hB
    exact ⟨blk_cell h 0 rfl, blk_cell h 1 rfl, blk_cell h 2 rfl⟩)
  have HW1 := Lib.hid hw1
  have HSM := Lib.hid (fun j (h : j < n.cells.length) => (HR.out.1 j h).1)
  have HSK := Lib.hid (fun j (h : j < n.kids.length) => HR.out.2.1 j h)
  have HE := Lib.hid (show encN n = headL n ++ kidsL n.kids ++ cellsL leaf n.cells from by rw [HLF.out]; rfl)
  clear HC HKD hw HH hS0 hb hw1
  cases leaf
  all_goals
    simp only [if_true, Bool.false_eq_true, if_false] at hcv HW1
    go_enter Try.func22, Try.ntmps22
    go_wp2
    rw [← HW1.out]
    clear hcv HW1
    go_loopw [4, 5] (fun s i wr => ∃ (q : Nat) (S : ByteArray), q ≤ kn ∧ i = .int .i64 q ∧ s = .string S ∧ S.size ≤ 3 + 4 * q ∧ Hid (S = nb (headL n ++ kidsL (n.kids.take q))) ∧ Hid (Below w1.heap.size w1 wr)) (fun _ i _ => kn - (intOf i).toNat)
    case atStart => exact ⟨0, S0, by omega, rfl, rfl, by omega, Lib.hid (by rw [HS0.out, List.take_zero]; simp [kidsL]), Lib.hid (Below.refl _ _)⟩
    case round =>
      obtain ⟨q, S, hq, rfl, rfl, hs, hS, hB⟩ := hrel
      obtain ⟨j0, j1, j2⟩ := HCF.out _ hB.out
      by_cases hlt : q < kn
      · have hlt' : q < n.kids.length := by have := HK.out; omega
        have t2 : (q : Int) < kn := by omega
        obtain ⟨b, off, rfl, hbw, c0⟩ := (kds_next HK1.out hB.out) q hlt'
        have hko := HSK.out q hlt'
        have hsn := take_snoc hlt'
        obtain ⟨x, hx⟩ : ∃ x, x = n.kids[q] := ⟨_, rfl⟩
        rw [← hx] at c0 hko hsn
        have kf := fun W => nfour_any x (by have := hko.1; omega) hko.2 W
        have h4 : (nb (fourL x.toNat)).size = 4 := by rw [nb_size, four_len]
        obtain ⟨F, hF⟩ : ∃ F, F = nb (fourL x.toNat) := ⟨_, rfl⟩
        rw [← hF] at kf h4
        have HSN := Lib.hid (show S ++ F = nb (headL n ++ kidsL (n.kids.take (q + 1))) from by rw [hS.out, hF, nb_app, hsn, kids_snoc, List.append_assoc])
        clear hx hsn hS hF hko
        go_wp2_with (go_at_call 42; (with_reducible refine (kf _).mono ?_); rintro e w2 ⟨rfl, b2⟩; have HB2 := Lib.hid (hB.out.trans (b2.mono hB.out.size)); clear b2)
        go_roundw
        case rel => exact ⟨q + 1, S ++ F, by omega, by go_num, rfl, by rw [ByteArray.size_append]; omega, HSN, HB2⟩
        case measure => simp [intOf]; omega
      · obtain rfl : q = kn := by omega
        have t2 : ¬ (q : Int) < q := by omega
        have HS1 := Lib.hid (show S = nb (headL n ++ kidsL n.kids) from by rw [hS.out, List.take_of_length_le (by have := HK.out; omega)])
        clear hS
        go_wp2
        clear j0 j1 j2
        have HES := Lib.hid (show encN n = headL n ++ kidsL n.kids ++ cellsL n.leaf n.cells from rfl)
        clear HE HS0 hs0
        go_loopw [4, 6] (fun s i wr => ∃ (k : Nat) (S : ByteArray), k ≤ len ∧ i = .int .i64 k ∧ s = .string S ∧ S.size ≤ 262147 + 182 * k ∧ Hid (S = nb (headL n ++ kidsL n.kids ++ cellsL n.leaf (n.cells.take k))) ∧ Hid (Below w1.heap.size w1 wr)) (fun _ i _ => len - (intOf i).toNat)
        case atStart => exact ⟨0, S, by omega, rfl, rfl, by omega, Lib.hid (by rw [HS1.out, List.take_zero]; simp [cellsL]), hB⟩
        case round =>
          clear hB HS1 hs
          obtain ⟨k, S, hk, rfl, rfl, hs, hS, hB⟩ := hrel
          obtain ⟨j0, j1, j2⟩ := HCF.out _ hB.out
          have HBW := Lib.hid (HB1.out.trans (hB.out.mono HB1.out.size))
          by_cases hlt : k < len
          · have hlt' : k < n.cells.length := by have := HL.out; omega
            have t3 : (k : Int) < len := by omega
            obtain ⟨b, off, rfl, hbw, c0, c1, c2, c3⟩ := (cls_next HC1.out hB.out) k hlt'
            have hok := HSM.out k hlt'
            have hsn := take_snoc hlt'
            obtain ⟨x, hx⟩ : ∃ x, x = n.cells[k] := ⟨_, rfl⟩
            rw [← hx] at c0 c1 c2 c3 hok hsn
            obtain ⟨o1, -, o3, o4, o5, o6, o7⟩ := hok
            obtain ⟨m, hm⟩ : ∃ m : Nat, x.len = m := ⟨x.len.toNat, by omega⟩
            rw [hm] at c1 o4 o5 o6 o7
            obtain ⟨KY, hKY⟩ : ∃ KY, KY = nb x.key := ⟨_, rfl⟩
            obtain ⟨LO, hLO⟩ : ∃ LO, LO = nb x.loc := ⟨_, rfl⟩
            have hks : KY.size = x.key.length := by rw [hKY, nb_size]
            have hls : LO.size = x.loc.length := by rw [hLO, nb_size]
            rw [← hKY] at c0
            rw [← hLO] at c2
            have hpk := lenN_le KY.size
            have hpm := lenN_le m
            have kp := fun W => nput_any KY.size (by omega) W
            have km := fun W => nput_any m (by omega) W
            have hps : (nb (putLV KY.size)).size ≤ 9 := by rw [nb_size, putL_length]; exact hpk
            have hqs : (nb (putLV m)).size ≤ 9 := by rw [nb_size, putL_length]; exact hpm
            obtain ⟨PK, hPK⟩ : ∃ PK, PK = nb (putLV KY.size) := ⟨_, rfl⟩
            obtain ⟨PM, hPM⟩ : ∃ PM, PM = nb (putLV m) := ⟨_, rfl⟩
            rw [← hPK] at kp hps
            rw [← hPM] at km hqs
            have HCT := Lib.hid (show S ++ PK ++ KY = nb (headL n ++ kidsL n.kids ++ cellsL n.leaf (n.cells.take k) ++ (putLV x.key.length ++ x.key)) from by rw [hS.out, hPK, hKY, ← hks, hKY, nb_app, nb_app]; simp only [List.append_assoc])
            have HMM := Lib.hid hm; have HXX := Lib.hid hx; have HSN := Lib.hid hsn; have HPM := Lib.hid hPM; have HLO := Lib.hid hLO
            have wk : IntKind.u64.wrap (KY.size : Int) = KY.size := by rw [IntKind.wrap_u64]; omega
            have wm : IntKind.u64.wrap (m : Int) = m := by rw [IntKind.wrap_u64]; omega
            have hky : KY.size ≤ 100 := by omega
            have hlo : LO.size ≤ 60 := by omega
            have hcat1 : ¬ 9223372036854775807 < S.size + PK.size := by omega
            have hcat2 : ¬ 9223372036854775807 < S.size + PK.size + KY.size := by omega
            clear hx hsn hPK hPM hKY hLO hks hls hpk hpm hm o5
            go_upto_region 13 with (fail)
            have hn := blk_new wr 45 #[.string KY, .int .i64 m, .string LO, .int .i64 x.ov]
            have hw := blw1 wr (.cells #[.string KY, .int .i64 m, .string LO, .int .i64 x.ov] 45)
            have HB5 := Lib.hid (hB.out.trans (hw.mono hB.out.size))
            clear hw c0 c1 c2 c3 j0 j1 j2 hB
            generalize wr.alloc (.cells #[.string KY, .int .i64 m, .string LO, .int .i64 x.ov] 45) = W5 at *
            have HCX := Lib.hid (fun W (hB : Below W5.heap.size W5 W) => show W.cell? ⟨wr.heap.size, 0, none⟩ = some (.string KY) ∧ W.cell? ⟨wr.heap.size, 1, none⟩ = some (.int .i64 m) ∧ W.cell? ⟨wr.heap.size, 2, none⟩ = some (.string LO) ∧ W.cell? ⟨wr.heap.size, 3, none⟩ = some (.int .i64 x.ov) from by
              have h := blk_below hn hB
              exact ⟨blk_cell h 0 rfl, blk_cell h 1 rfl, blk_cell h 2 rfl, blk_cell h 3 rfl⟩)
            have HG := Lib.hid (fun W (h : Below W5.heap.size W5 W) => show W.cell? ⟨wr.heap.size, 0, none⟩ = some (.string KY) ∧ Below W5.heap.size W5 W from ⟨(HCX.out W h).1, h⟩)
            clear hn
            go_region_held3 (fun v => v.cell? ⟨wr.heap.size, 0, none⟩ = some (.string KY) ∧ Below W5.heap.size W5 v)
              (first | assumption | exact HG.out _ (Below.refl _ _) | exact HG.out _ (Below.refl _ _).drew | exact HG.out _ (Below.trans (And.right (by assumption)) (Below.mono (by assumption) (Below.size (And.right (by assumption))))))
              ((go_at_call 43; (with_reducible refine (kp _).mono ?_); rintro e w6 ⟨rfl, hb6⟩))
            all_goals (have hBx := Lib.hid (‹World.cell? _ _ = some (.string KY) ∧ Below W5.heap.size W5 _›).2)
            have HB6 := Lib.hid (HB5.out.trans (hBx.out.mono HB5.out.size))
            obtain ⟨j0, j1, j2⟩ := HCF.out _ HB6.out
            obtain ⟨d0, d1, d2, d3⟩ := HCX.out _ hBx.out
            obtain ⟨S2, hS2⟩ : ∃ S2, S2 = S ++ PK ++ KY := ⟨_, rfl⟩
            rw [← hS2]
            have hs2 : S2.size ≤ 262147 + 182 * k + 109 := by rw [hS2, ByteArray.size_append, ByteArray.size_append]; omega
            rw [← hS2] at HCT
            have HC2 := Lib.hid (HG.out _ hBx.out)
            clear hcat1 hcat2 hS2 HB5 hBx hs
            first
              | (have HNX := Lib.hid (show S2 = nb (headL n ++ kidsL n.kids ++ cellsL n.leaf (n.cells.take (k + 1))) from by
                  have hl : n.leaf = false := HLF.out.symm
                  rw [HCT.out, HSN.out, cells_snoc, hl, cell_no]
                  simp only [List.append_assoc])
                 go_wp2
                 go_roundw
                 case rel => exact ⟨k + 1, S2, by omega, by go_num, rfl, by omega, HNX, HB6⟩
                 case measure => simp [intOf]; omega)
              | (have HLT := Lib.hid (show n.leaf = true from HLF.out.symm)
                 have HG2 := Lib.hid (fun W (h : Below w6.heap.size w6 W) => show (W.cell? ⟨wr.heap.size, 1, none⟩ = some (.int .i64 m) ∧ W.cell? ⟨wr.heap.size, 2, none⟩ = some (.string LO) ∧ W.cell? ⟨wr.heap.size, 3, none⟩ = some (.int .i64 x.ov)) ∧ Below w6.heap.size w6 W from ⟨⟨(h.cell (p := ⟨wr.heap.size, 1, none⟩) (World.block_lt_of_cell? w6 _ d1)).trans d1, (h.cell (p := ⟨wr.heap.size, 2, none⟩) (World.block_lt_of_cell? w6 _ d2)).trans d2, (h.cell (p := ⟨wr.heap.size, 3, none⟩) (World.block_lt_of_cell? w6 _ d3)).trans d3⟩, h⟩)
                 have hcat1 : ¬ 9223372036854775807 < S2.size + PM.size := by omega
                 have hcat2 : ¬ 9223372036854775807 < S2.size + PM.size + LO.size := by omega
                 go_upto_region 15 with (fail)
                 go_region_held3 (fun v => (v.cell? ⟨wr.heap.size, 1, none⟩ = some (.int .i64 m) ∧ v.cell? ⟨wr.heap.size, 2, none⟩ = some (.string LO) ∧ v.cell? ⟨wr.heap.size, 3, none⟩ = some (.int .i64 x.ov)) ∧ Below w6.heap.size w6 v)
                   (first | assumption | exact HG2.out _ (Below.refl _ _) | exact HG2.out _ (Below.refl _ _).drew | exact HG2.out _ (Below.trans (And.right (by assumption)) (Below.mono (by assumption) (Below.size (And.right (by assumption))))))
                   ((go_at_call 43; (with_reducible refine (km _).mono ?_); rintro e w7 ⟨rfl, hb7⟩))
                 have HB7' := Lib.hid (‹_ ∧ Below w6.heap.size w6 w7›).2
                 obtain ⟨⟨f1, f2, f3⟩, -⟩ := HG2.out _ HB7'.out
                 have HB7 := Lib.hid (HB6.out.trans (HB7'.out.mono HB6.out.size))
                 obtain ⟨S3, hS3⟩ : ∃ S3, S3 = S2 ++ PM ++ LO := ⟨_, rfl⟩
                 rw [← hS3]
                 have hs3 : S3.size ≤ 262147 + 182 * k + 178 := by rw [hS3, ByteArray.size_append, ByteArray.size_append]; omega
                 have HC3 := Lib.hid (show S3 = nb (headL n ++ kidsL n.kids ++ cellsL n.leaf (n.cells.take k) ++ (putLV x.key.length ++ x.key) ++ (putLV m ++ x.loc)) from by rw [hS3, HCT.out, HPM.out, HLO.out, nb_app, nb_app]; simp only [List.append_assoc])
                 have HMN := Lib.hid (show x.len.toNat = m by have := HMM.out; omega)
                 clear hS3 hcat1 hcat2 HC2 HB7' HCT
                 by_cases h60 : (60 : Int) < (m : Int)
                 · obtain ⟨q1, q2⟩ := o7 h60
                   have kf := fun W => nfour_any x.ov (by omega) q2 W
                   have h4 : (nb (fourL x.ov.toNat)).size = 4 := by rw [nb_size, four_len]
                   obtain ⟨F, hF⟩ : ∃ F, F = nb (fourL x.ov.toNat) := ⟨_, rfl⟩
                   rw [← hF] at kf h4
                   have HNX := Lib.hid (show S3 ++ F = nb (headL n ++ kidsL n.kids ++ cellsL n.leaf (n.cells.take (k + 1))) from by
                     rw [HC3.out, HSN.out, hF, cells_snoc, HLT.out, cell_yes, HMN.out, if_pos (by rw [HMM.out]; exact h60), nb_app]
                     simp only [List.append_assoc])
                   clear hF o6 o7
                   go_wp2_with (go_at_call 42; (with_reducible refine (kf _).mono ?_); rintro e w8 ⟨rfl, b8⟩; have HB8 := Lib.hid (HB7.out.trans (b8.mono HB7.out.size)); clear b8)
                   go_roundw
                   case rel => exact ⟨k + 1, S3 ++ F, by omega, by go_num, rfl, by rw [ByteArray.size_append]; omega, HNX, HB8⟩
                   case measure => simp [intOf]; omega
                 · have HNX := Lib.hid (show S3 = nb (headL n ++ kidsL n.kids ++ cellsL n.leaf (n.cells.take (k + 1))) from by
                     rw [HC3.out, HSN.out, cells_snoc, HLT.out, cell_yes, HMN.out, if_neg (by rw [HMM.out]; exact h60), List.append_nil]
                     simp only [List.append_assoc])
                   clear o6 o7
                   go_wp2
                   go_roundw
                   case rel => exact ⟨k + 1, S3, by omega, by go_num, rfl, by omega, HNX, HB7⟩
                   case measure => simp [intOf]; omega)
          · obtain rfl : k = len := by omega
            have t3 : ¬ (k : Int) < k := by omega
            go_wp2
            go_ret
            exact ⟨by rw [hS.out, HES.out, List.take_of_length_le (by have := HL.out; omega)]; rfl, HBW.out⟩
theorem rbytes_any (n : Nod) (ca ka : Option Addr) (cc kc : Nat) (w : World) (hr : RightN n) (hz : NdSz n) (hc : Cls w ca n.cells) (hk : Kds w ka n.kids) :
    Calls Try.prog 22 #[.agg #[.bool n.leaf, .slice ca n.cells.length cc, .slice ka n.kids.length kc]] w fun e w' => e = .returned (.string (nb (encN n))) ∧ Below w.heap.size w w' :=
  rbytes_leaf n.leaf n rfl ca ka cc kc w hr hz hc hk
end Go.Proofs.Ytdpjmijdlheajaa
