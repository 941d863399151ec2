/-
  Layer 16, the program's encode (annexe/node): the encoding of a node; it changes nothing that was there. Condition: the node may be.
-/
import Derived.Test.YtdpjmijdlheajaaNpEnc
namespace Go.Proofs.Ytdpjmijdlheajaa
open Go.RowKit

theorem nbuilderAt_below {T e : TypeId} {B b : Nat} {p : Value} {bs : List Value} {W W' : World} (h : Lib.BuilderAtF T e B b p bs W) (hb : Below W.heap.size W W') : Lib.BuilderAtF T e B b p bs W' := by
  obtain ⟨hB, v, hh, hown, hne⟩ := h
  have hg : W.grownBy W' none := ⟨hb.os, hb.tape, hb.output, hb.size, fun k hk _ => hb.block k hk⟩
  have hlt : b < W.heap.size := by
    obtain ⟨hlt, _⟩ := Array.getElem?_eq_some_iff.1 hh
    exact hlt
  refine ⟨hB, v, (hb.block b hlt).trans hh, hown.kept hg ?_, hne⟩
  cases hv : v.ownBlock with
  | none => exact .inl rfl
  | some g => exact .inr (by simp)
theorem nbuilder_below {T e : TypeId} {B b : Nat} {bs : List Value} {W W' : World} (h : Lib.IsBuilderF T e B b bs W) (hb : Below W.heap.size W W') : Lib.IsBuilderF T e B b bs W' :=
  h.elim (fun x => .inl (nbuilderAt_below x hb)) (fun x => .inr (nbuilderAt_below x hb))
theorem nbyteCells_app (a b : List UInt8) : Lib.byteCells (a ++ b) = Lib.byteCells a ++ Lib.byteCells b := by simp [Lib.byteCells]
theorem blk_others {W W' : World} {b g : Nat} {t : TypeId} {cs : Array Value} (h : Lib.OthersKept 5 (some b) W W') (hg : Blk W g t cs) (hne : g ≠ b) (ht : t ≠ 5) : Blk W' g t cs :=
  h g _ hg (fun e => hne (Option.some.inj e)) (fun c fz e => by
    injection e with e1 e2 e3
    exact ht e2)
/-- What a builder holds, that began in a world. -/
structure BdI (w1 : World) (B : Nat) (l : List UInt8) (W : World) : Prop where
  hb : B ≤ W.heap.size
  bd : Lib.IsBuilderF 72 5 B B (Lib.byteCells l) W
  bw : Below B w1 W
theorem BdI.below {w1 W W' : World} {B : Nat} {l : List UInt8} (h : BdI w1 B l W) (_hB : B = w1.heap.size) (hb : Below W.heap.size W W') : BdI w1 B l W' :=
  ⟨Nat.le_trans h.hb hb.size, nbuilder_below h.bd hb, h.bw.trans (hb.mono h.hb)⟩
/-- WriteString at such a builder. -/
theorem bd_write {w1 W : World} {B : Nat} {l : List UInt8} (h : BdI w1 B l W) (s : List UInt8) (hl : l.length + s.length ≤ 100000000) :
    Calls Try.prog 33 #[.pointer (some ⟨B, 0, none⟩), .string (nb s)] W fun e w' => e = .returned (.tuple #[.int .i64 (nb s).size, .nilIface]) ∧ BdI w1 B (l ++ s) w' ∧ Lib.OthersKept 5 (some B) W w' := by
  refine (Try.Builder_WriteString_k B B (Lib.byteCells l) (nb s) W h.bd (by rw [Lib.byteCells_length, nb_size]; omega) h.hb).mono ?_
  rintro e w' ⟨rfl, hbd, hbl, hok⟩
  refine ⟨rfl, ⟨Nat.le_trans h.hb hbl.size, ?_, h.bw.trans hbl⟩, hok⟩
  rw [nbyteCells_app]
  exact Or.inr hbd
theorem bd_new (w1 : World) : BdI w1 w1.heap.size [] (w1.alloc (.cells #[.pointer none, .slice none 0 0] 72)) :=
  ⟨by simp, Lib.IsBuilderF.of (Lib.fresh_isBuilder 72 5 w1), blw1 _ _⟩
theorem bdi_lt {w1 W : World} {B : Nat} {l : List UInt8} (h : BdI w1 B l W) : B < W.heap.size := by
  rcases h.bd with ⟨_, v, hh, _⟩ | ⟨_, v, hh, _⟩
  · exact (Array.getElem?_eq_some_iff.1 hh).1
  · exact (Array.getElem?_eq_some_iff.1 hh).1
theorem head_four {k : Nat} (h : k < 65536) : (nb (fourL k)).extract 2 4 = nb [(k / 256).toUInt8, (k % 256).toUInt8] := by
  rw [nb_ext]
  congr 1
  unfold fourL
  simp only [List.drop_succ_cons, List.drop_zero]
  rw [show k / 256 % 256 = k / 256 by omega]
  rfl
set_option maxRecDepth 100000 in
set_option maxHeartbeats 4000000 in
theorem encode_leaf (leaf : Bool) (n : Nod) (hlf : leaf = n.leaf) (ca ka : Option Addr) (cc kc : Nat) (w : World) (hr : RightN n) (hc : Cls w ca n.cells) (hk : Kds w ka n.kids) :
    Calls Try.prog 19 #[.agg #[.bool leaf, .slice ca n.cells.length cc, .slice ka n.kids.length kc]] w fun e w' => e = .returned (.string (nb (encN n))) ∧ Below w.heap.size w w' := by
  obtain ⟨len, hlen⟩ : ∃ b, b = n.cells.length := ⟨_, rfl⟩
  obtain ⟨kn, hkn⟩ : ∃ b, b = n.kids.length := ⟨_, rfl⟩
  rw [← hlen, ← hkn]
  have hle : len ≤ 65535 := by have := hr.2.2.1; omega
  have hke : kn ≤ 65536 := by
    cases h : n.leaf with
    | true => have := hr.2.2.2.1 h; omega
    | false => have := hr.2.2.2.2 h; omega
  have HLF := Lib.hid hlf; have HL := Lib.hid hlen; have HK := Lib.hid hkn; have HR := Lib.hid hr
  have hb := blk_new w 32 #[.bool leaf, .slice ca len cc, .slice ka kn kc]
  have hw := blw1 w (.cells #[.bool leaf, .slice ca len cc, .slice ka kn kc] 32)
  obtain ⟨w1, hw1⟩ : ∃ w1, w1 = w.alloc (.cells #[.bool leaf, .slice ca len cc, .slice ka kn kc] 32) := ⟨_, rfl⟩
  rw [← hw1] at hb hw
  have HC1 := Lib.hid (cls_next hc hw); have HK1 := Lib.hid (kds_next hk hw); have HB1 := Lib.hid hw; have HW1 := Lib.hid hw1
  have HCF := Lib.hid (fun W (hB : Below w1.heap.size w1 W) => show W.cell? ⟨w.heap.size, 0, none⟩ = some (.bool leaf) ∧ W.cell? ⟨w.heap.size, 1, none⟩ = some (.slice ca len cc) ∧ W.cell? ⟨w.heap.size, 2, none⟩ = some (.slice ka kn kc) from by
    have h := blk_below hb hB
    exact ⟨blk_cell h 0 rfl, blk_cell h 1 rfl, blk_cell h 2 rfl⟩)
  clear hlf hlen hkn hc hk hr hb hw hw1
  obtain ⟨B, hB⟩ : ∃ B, B = w1.heap.size := ⟨_, rfl⟩
  have HNB := Lib.hid (show BdI w1 B [] (w1.alloc (.cells #[.pointer none, .slice none 0 0] 72)) from by rw [hB]; exact bd_new w1)
  have HBB := Lib.hid hB
  have HHD := Lib.hid (head_four (k := len) (by omega))
  have kf := fun W => fixed_any (len : Int) (by omega) (by omega) W
  rw [show ((len : Int)).toNat = len from rfl] at kf
  obtain ⟨F, hF⟩ : ∃ F, F = nb (fourL len) := ⟨_, rfl⟩
  have hfs : F.size = 4 := by rw [hF, nb_size, four_len]
  rw [← hF] at kf HHD
  obtain ⟨H2, hH2⟩ : ∃ H, H = [(len / 256).toUInt8, (len % 256).toUInt8] := ⟨_, rfl⟩
  rw [← hH2] at HHD
  have HH2 := Lib.hid hH2
  have hex := HHD.out
  clear hF hH2 hB
  go_enter Try.func19, Try.ntmps19
  go_upto_region 1 with (fail)
  rw [← HW1.out]
  go_upto_region 2 with (fail)
  have HDB := Lib.hid (blw1 w1 (.cells #[.pointer none, .slice none 0 0] 72))
  rw [← HBB.out]
  obtain ⟨w2, hw2⟩ : ∃ w2, w2 = w1.alloc (.cells #[.pointer none, .slice none 0 0] 72) := ⟨_, rfl⟩
  rw [← hw2]
  rw [← hw2] at HNB HDB
  clear hw2
  obtain ⟨j0, j1, j2⟩ := HCF.out _ HDB.out
  have HE := Lib.hid (show encN n = headL n ++ kidsL n.kids ++ cellsL leaf n.cells from by rw [HLF.out]; rfl)
  cases leaf
  all_goals
    obtain ⟨MK, hMK⟩ : ∃ M : List UInt8, M = [if n.leaf = true then 1 else 2] := ⟨_, rfl⟩
    have hmk : nb MK = ⟨#[if n.leaf = true then 1 else 2]⟩ := by rw [hMK]; rfl
    rw [← HLF.out] at hmk
    simp only [if_true, Bool.false_eq_true, if_false] at hmk
    have HMK := Lib.hid hMK
    have HHE := Lib.hid (show MK ++ H2 = headL n from by rw [hMK, HH2.out, HL.out]; rfl)
    have hmkl : MK.length = 1 := by rw [hMK]; rfl
    clear hMK
    go_upto_region 5 with (go_at_call 33; rw [← hmk]; (with_reducible refine (bd_write HNB.out MK (by rw [hmkl]; decide)).mono ?_); rintro e w3 ⟨rfl, hb3, -⟩; have HD3 := Lib.hid hb3; clear hb3)
    rw [List.nil_append] at HD3
    obtain ⟨j0, j1, j2⟩ := HCF.out w3 (by rw [← HBB.out]; exact HD3.out.bw)
    have hb2l : H2.length = 2 := by rw [HH2.out]; rfl
    go_upto_region 6 with (first
      | (go_at_call 34; (with_reducible refine (kf _).mono ?_); rintro e w4 ⟨rfl, hb4⟩; have HD4 := Lib.hid (HD3.out.below HBB.out hb4); clear hb4)
      | (go_at_call 33; (try rw [hex]); (with_reducible refine (bd_write HD4.out H2 (by rw [hmkl, hb2l]; decide)).mono ?_); rintro e w5 ⟨rfl, hb5, -⟩; have HD5 := Lib.hid hb5; clear hb5))
    rw [HHE.out] at HD5
    clear HD3 HD4 HNB HDB HMK HHE HHD hex hmk hmkl hb2l j0 j1 j2 HH2 kf
    obtain ⟨j0, j1, j2⟩ := HCF.out w5 (by rw [← HBB.out]; exact HD5.out.bw)
    go_wp2
    clear j0 j1 j2
    go_loopw [21] (fun i wr => ∃ q : Nat, q ≤ kn ∧ i = .int .i64 q ∧ Hid (BdI w1 B (headL n ++ kidsL (n.kids.take q)) wr)) (fun i _ => kn - (intOf i).toNat)
    case atStart => exact ⟨0, by omega, rfl, Lib.hid (by rw [List.take_zero]; simpa [kidsL] using HD5.out)⟩
    case round =>
      clear HD5
      obtain ⟨q, hq, rfl, hI⟩ := hrel
      have HB := Lib.hid (show Below w1.heap.size w1 wr from by rw [← HBB.out]; exact hI.out.bw)
      obtain ⟨j0, j1, j2⟩ := HCF.out _ HB.out
      by_cases hlt : q < kn
      · have hlt' : q < n.kids.length := by have := HK.out; omega
        have t2 : (q : Int) < kn := by omega
        obtain ⟨b, off, rfl, hbw, c0⟩ := (kds_next HK1.out HB.out) q hlt'
        have hko := HR.out.2.1 q hlt'
        have hsn := take_snoc hlt'
        obtain ⟨x, hx⟩ : ∃ x, x = n.kids[q] := ⟨_, rfl⟩
        rw [← hx] at c0 hko hsn
        have kf := fun W => fixed_any x (by have := hko.1; omega) (by have := hko.2; omega) W
        obtain ⟨f4, hf4⟩ : ∃ f, f = fourL x.toNat := ⟨_, rfl⟩
        rw [← hf4] at kf
        have HSN := Lib.hid (show headL n ++ kidsL (n.kids.take q) ++ f4 = headL n ++ kidsL (n.kids.take (q + 1)) from by rw [hsn, kids_snoc, hf4, List.append_assoc])
        have HLN := Lib.hid (show (headL n ++ kidsL (n.kids.take q)).length + f4.length ≤ 100000000 from by
          rw [List.length_append, kids_len, hf4, four_len, List.length_take]
          have : (headL n).length = 3 := rfl
          have : min q n.kids.length ≤ q := Nat.min_le_left _ _
          omega)
        clear hx hsn hf4 hko
        go_wp2_with (first
          | (go_at_call 34; (with_reducible refine (kf _).mono ?_); rintro e w6 ⟨rfl, hb6⟩; have HD6 := Lib.hid (hI.out.below HBB.out hb6); clear hb6)
          | (go_at_call 33; (with_reducible refine (bd_write HD6.out f4 HLN.out).mono ?_); rintro e w7 ⟨rfl, hb7, -⟩; have HD7 := Lib.hid hb7; clear hb7))
        rw [HSN.out] at HD7
        go_roundw
        case rel => exact ⟨q + 1, by omega, by go_num, HD7⟩
        case measure => simp [intOf]; omega
      · obtain rfl : q = kn := by omega
        have t2 : ¬ (q : Int) < q := by omega
        have HD8 := Lib.hid (show BdI w1 B (headL n ++ kidsL n.kids) wr from by
          have h := hI.out
          rwa [List.take_of_length_le (by have := HK.out; omega)] at h)
        clear hI
        go_wp2
        clear j0 j1 j2
        have HES := Lib.hid (show encN n = headL n ++ kidsL n.kids ++ cellsL n.leaf n.cells from rfl)
        obtain ⟨L0, hL0⟩ : ∃ L0, L0 = headL n ++ kidsL n.kids := ⟨_, rfl⟩
        have HL0 := Lib.hid (show L0.length ≤ 262147 from by
          rw [hL0, List.length_append, kids_len]
          have : (headL n).length = 3 := rfl
          have := HK.out
          omega)
        rw [← hL0] at HD8 HES
        clear HE hL0
        go_loopw [32] (fun i wr => ∃ k : Nat, k ≤ len ∧ i = .int .i64 k ∧ Hid (BdI w1 B (L0 ++ cellsL n.leaf (n.cells.take k)) wr)) (fun i _ => len - (intOf i).toNat)
        case atStart => exact ⟨0, by omega, rfl, Lib.hid (by rw [List.take_zero]; simpa [cellsL] using HD8.out)⟩
        case round =>
          clear HD8 HB
          obtain ⟨k, hk, rfl, hI⟩ := hrel
          have HB := Lib.hid (show Below w1.heap.size w1 wr from by rw [← HBB.out]; exact hI.out.bw)
          obtain ⟨j0, j1, j2⟩ := HCF.out _ HB.out
          by_cases hlt : k < len
          · have hlt' : k < n.cells.length := by have := HL.out; omega
            have t3 : (k : Int) < len := by omega
            obtain ⟨b, off, rfl, hbw, c0, c1, c2, c3⟩ := (cls_next HC1.out HB.out) k hlt'
            have hok := (HR.out.1 k hlt').1
            have hsn := take_snoc hlt'
            have HLN := Lib.hid (show (L0 ++ cellsL n.leaf (n.cells.take k)).length ≤ 262147 + 182 * k from by
              have h := cells_lenb (take_ok (fun j h => (HR.out.1 j h).1) k)
              rw [List.length_take] at h
              rw [List.length_append]
              have := HL0.out
              have : min k n.cells.length ≤ k := Nat.min_le_left _ _
              omega)
            obtain ⟨x, hx⟩ : ∃ x, x = n.cells[k] := ⟨_, rfl⟩
            rw [← hx] at c0 c1 c2 c3 hok hsn
            have kc1 := fun W => counted_any x.key hok.1 W
            have HCN := Lib.hid (show cellsL n.leaf (n.cells.take (k + 1)) = cellsL n.leaf (n.cells.take k) ++ cellL n.leaf x from by rw [hsn, cells_snoc])
            have HOK := Lib.hid hok
            obtain ⟨pk, hpk⟩ : ∃ pk, pk = putLV x.key.length ++ x.key := ⟨_, rfl⟩
            rw [← hpk] at kc1
            have hpl : pk.length ≤ 109 := by
              have h1 := lenN_le x.key.length
              have := hok.1
              rw [hpk, List.length_append, putL_length]; omega
            have HPK := Lib.hid hpk
            clear hx hsn hok hpk
            go_upto_region 14 with (fail)
            have hn := blk_new wr 51 #[.string (nb x.key), .int .i64 x.len, .string (nb x.loc), .int .i64 x.ov]
            have hw := blw1 wr (.cells #[.string (nb x.key), .int .i64 x.len, .string (nb x.loc), .int .i64 x.ov] 51)
            have HD5 := Lib.hid (hI.out.below HBB.out hw)
            have HGB := Lib.hid (show wr.heap.size ≠ B from by have := (bdi_lt hI.out); omega)
            clear hw c0 c1 c2 c3 j0 j1 j2 hI HB
            generalize wr.alloc (.cells #[.string (nb x.key), .int .i64 x.len, .string (nb x.loc), .int .i64 x.ov] 51) = W5 at *
            have d0 := blk_cell hn 0 rfl; have d1 := blk_cell hn 1 rfl; have d2 := blk_cell hn 2 rfl; have d3 := blk_cell hn 3 rfl
            have HN := Lib.hid hn
            clear hn
            go_upto_region 15 with (first
              | (go_at_call 35; (with_reducible refine (kc1 _).mono ?_); rintro e w6 ⟨rfl, hb6⟩; have HD6 := Lib.hid (HD5.out.below HBB.out hb6); have HN6 := Lib.hid (blk_below HN.out hb6); clear hb6)
              | (go_at_call 33; (with_reducible refine (bd_write HD6.out pk (by have := HLN.out; omega)).mono ?_); rintro e w7 ⟨rfl, hb7, ho7⟩; have HD7 := Lib.hid hb7; have HN7 := Lib.hid (blk_others ho7 HN6.out HGB.out (by decide)); clear hb7 ho7))
            clear d0 d1 d2 d3 kc1
            obtain ⟨j0, j1, j2⟩ := HCF.out w7 (by rw [← HBB.out]; exact HD7.out.bw)
            first
              | (have HD9 := Lib.hid (show BdI w1 B (L0 ++ cellsL n.leaf (n.cells.take (k + 1))) w7 from by
                  have hl : n.leaf = false := HLF.out.symm
                  have h := HD7.out
                  rw [HPK.out] at h
                  rw [HCN.out, hl, cell_no, ← List.append_assoc, ← hl]
                  exact h)
                 go_wp2
                 go_roundw
                 case rel => exact ⟨k + 1, by omega, by go_num, HD9⟩
                 case measure => simp [intOf]; omega)
              | (have hl : n.leaf = true := HLF.out.symm
                 have kp := fun W => payload_any x (by rw [← hl]; exact HOK.out) W
                 have hpy := pay_len (c := x) (by rw [← hl]; exact HOK.out)
                 obtain ⟨py, hpy0⟩ : ∃ p, p = payL x := ⟨_, rfl⟩
                 have HSN := Lib.hid (show L0 ++ cellsL n.leaf (n.cells.take k) ++ pk ++ py = L0 ++ cellsL n.leaf (n.cells.take (k + 1)) from by
                   rw [HCN.out, HPK.out, hpy0]
                   rw [show cellL n.leaf x = putLV x.key.length ++ x.key ++ payL x from by rw [hl, cell_yes]; rfl]
                   simp only [List.append_assoc])
                 rw [← hpy0] at kp hpy
                 have hn7 := HN7.out
                 have d0 := blk_cell hn7 0 rfl; have d1 := blk_cell hn7 1 rfl; have d2 := blk_cell hn7 2 rfl; have d3 := blk_cell hn7 3 rfl
                 clear hn7 hpy0 hl
                 go_wp2_with (first
                   | (go_at_call 36; (with_reducible refine (kp _).mono ?_); rintro e w8 ⟨rfl, hb8⟩; have HD8 := Lib.hid (HD7.out.below HBB.out hb8); clear hb8)
                   | (go_at_call 33; (with_reducible refine (bd_write HD8.out py (by have := HLN.out; rw [List.length_append]; omega)).mono ?_); rintro e w9 ⟨rfl, hb9, -⟩; have HD9 := Lib.hid hb9; clear hb9))
                 rw [HSN.out] at HD9
                 go_roundw
                 case rel => exact ⟨k + 1, by omega, by go_num, HD9⟩
                 case measure => simp [intOf]; omega)
          · obtain rfl : k = len := by omega
            have t3 : ¬ (k : Int) < k := by omega
            have HD10 := Lib.hid (show BdI w1 B (encN n) wr from by
              have h := hI.out
              rw [List.take_of_length_le (by have := HL.out; omega)] at h
              rw [HES.out]
              exact h)
            clear hI
            go_wp2_with (go_at_call 37; (with_reducible refine (Try.Builder_String_any_k B B (encN n) _ HD10.out.bd HD10.out.hb).mono ?_); rintro e w9 ⟨rfl, -, hb9, -⟩; have HB9 := Lib.hid (HD10.out.bw.trans hb9); clear hb9)
            go_ret
            exact ⟨rfl, HB1.out.trans (HB9.out.mono (by rw [HBB.out]; exact HB1.out.size))⟩
theorem encode_nd (n : Nod) (ca ka : Option Addr) (cc kc : Nat) (w : World) (hr : RightN n) (hc : Cls w ca n.cells) (hk : Kds w ka n.kids) :
    Calls Try.prog 19 #[.agg #[.bool n.leaf, .slice ca n.cells.length cc, .slice ka n.kids.length kc]] w fun e w' => e = .returned (.string (nb (encN n))) ∧ Below w.heap.size w w' :=
  encode_leaf n.leaf n rfl ca ka cc kc w hr hc hk
end Go.Proofs.Ytdpjmijdlheajaa
