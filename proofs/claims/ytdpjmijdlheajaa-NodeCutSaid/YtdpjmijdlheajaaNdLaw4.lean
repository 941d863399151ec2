/-
  The statement NodeCut as a walk: it returns true for every input and changes nothing that was there. Condition: sizes as memory bears them.
-/
import Derived.Test.YtdpjmijdlheajaaNdLaw3
namespace Go.Proofs.Ytdpjmijdlheajaa
open Go.RowKit

theorem boundary (f : Nat → Bool) : ∀ n : Nat, (∀ i j, i ≤ j → j < n → f j = true → f i = true) → ∃ k, k ≤ n ∧ (∀ t, t < k → f t = true) ∧ ∀ t, k ≤ t → t < n → f t = false
  | 0, _ => ⟨0, Nat.le_refl _, fun t h => absurd h (Nat.not_lt_zero _), fun t _ h => absurd h (Nat.not_lt_zero _)⟩
  | n + 1, h => by
    obtain ⟨k, hk, h1, h2⟩ := boundary f n fun i j hij hj => h i j hij (by omega)
    by_cases hkn : k = n
    · cases hf : f n with
      | true => exact ⟨n + 1, Nat.le_refl _, fun t ht => by
          by_cases e : t = n
          · rw [e]; exact hf
          · exact h1 t (by omega), fun t h3 h4 => absurd h4 (by omega)⟩
      | false => exact ⟨k, by omega, h1, fun t h3 h4 => by
          by_cases e : t = n
          · rw [e]; exact hf
          · exact h2 t h3 (by omega)⟩
    · refine ⟨k, by omega, h1, fun t h3 h4 => ?_⟩
      by_cases e : t = n
      · cases hf : f t with
        | false => rfl
        | true =>
          have := h k t h3 h4 hf
          rw [h2 k (Nat.le_refl _) (by omega)] at this
          cases this
      · exact h2 t h3 (by omega)
theorem les_iff {l : List Cel} (hr : Rising l) (p : List UInt8) {i : Nat} (hi : i < l.length) : Op.bytesLess l[i].key p = decide (i < lesN l p) := by
  obtain ⟨k, hk, h1, h2⟩ := boundary (fun i => if h : i < l.length then Op.bytesLess l[i].key p else false) l.length (fun i j hij hj hf => by
    have hi : i < l.length := by omega
    simp only [hj, hi, dif_pos] at hf ⊢
    exact less_mono hr p hij hj hf)
  have e : lesN l p = k := les_at hk (fun t ht hlt => by have := h1 t hlt; simpa [ht] using this) (fun t ht hge => by have := h2 t hge ht; simpa [ht] using this)
  rw [e]
  by_cases h : i < k
  · rw [decide_eq_true h]
    have := h1 i h
    simpa [hi] using this
  · rw [decide_eq_false h]
    have := h2 i (by omega) hi
    simpa [hi] using this
theorem is_at {l : List Cel} {p : List UInt8} (h : isN l p = true) : ∃ hl : lesN l p < l.length, (l[lesN l p]).key = p := by
  unfold isN at h
  split at h
  · rename_i c hc
    obtain ⟨hl, e⟩ := List.getElem?_eq_some_iff.1 hc
    exact ⟨hl, by rw [e]; simpa using h⟩
  · cases h
theorem wri_err {n : Nod} {p : List UInt8} {er : Int} (h : wriN n = (p, er)) (he : er ≠ 0) : p = [] := by
  by_cases hr : RightN n
  · by_cases hl : 512 < (encN n).length
    · rw [wri_full hr hl] at h
      injection h with h1 h2
      exact h1.symm
    · rw [wri_yes hr hl] at h
      injection h with h1 h2
      exact absurd h2.symm he
  · rw [wri_no hr] at h
    injection h with h1 h2
    exact h1.symm
theorem wri_ris {n : Nod} {p : List UInt8} (h : wriN n = (p, 0)) : Rising n.cells ∧ p.length = 512 := by
  have hr : RightN n := Classical.byContradiction fun hr => by
    rw [wri_no hr] at h
    injection h with _ h2
    exact absurd h2 (by decide)
  exact ⟨fun k hk h0 => (hr.1 k hk).2 hk h0, rd_len (rd_iff.2 h)⟩
theorem wrap_bd (z : Int) : 0 ≤ IntKind.u64.wrap z ∧ IntKind.u64.wrap z < 18446744073709551616 := by rw [IntKind.wrap_u64]; omega
set_option maxRecDepth 100000 in
set_option maxHeartbeats 8000000 in
theorem ncut_leaf (leaf : Bool) (n : Nod) (hlf : leaf = n.leaf) (ca ka : Option Addr) (cc kc : Nat) (S : ByteArray) (c : Int) (w : World) (hz : NdSz n) (hc : Cls w ca n.cells) (hk : Kds w ka n.kids) (hn : ka = none → kc = 0) :
    Calls Try.prog 6 #[.agg #[.bool leaf, .slice ca n.cells.length cc, .slice ka n.kids.length kc], .string S, .int .i64 c] w fun e w' => e = .returned (.bool true) ∧ Below w.heap.size w w' := by
  obtain ⟨key, hkey⟩ : ∃ s, s = S.data.toList := ⟨_, rfl⟩
  have hS : S = nb key := by rw [hkey, nb_back]
  have hb := blk_new w 25 #[.bool leaf, .slice ca n.cells.length cc, .slice ka n.kids.length kc]
  have hw := blw1 w (.cells #[.bool leaf, .slice ca n.cells.length cc, .slice ka n.kids.length kc] 25)
  obtain ⟨w1, hw1⟩ : ∃ w1, w1 = w.alloc (.cells #[.bool leaf, .slice ca n.cells.length cc, .slice ka n.kids.length kc] 25) := ⟨_, rfl⟩
  rw [← hw1] at hb hw
  have HC1 := Lib.hid (cls_next hc hw); have HK1 := Lib.hid (kds_next hk hw); have HSZ := Lib.hid hz
  obtain ⟨p, er, hpe⟩ : ∃ p er, wriN n = (p, er) := ⟨_, _, rfl⟩
  obtain ⟨T, hT⟩ : ∃ S, S = nb p := ⟨_, rfl⟩
  have HGR := Lib.hid (fun W (h : Below w1.heap.size w1 W) => (show Calls Try.prog 7 #[.agg #[.bool leaf, .slice ca n.cells.length cc, .slice ka n.kids.length kc]] W (GrtN n W) from by rw [hlf]; exact ngreat_any n ca ka cc kc W hz (cls_next HC1.out h)))
  have HOW := Lib.hid (fun (hf : FineN n) W (h : Below w1.heap.size w1 W) => own_leaf leaf n hlf ca ka cc kc W hf (cls_next HC1.out h) (kds_next HK1.out h) hn)
  have HPW := Lib.hid (fun W a b (c d : Nat) (h1 : Cls W a n.cells) (h2 : Kds W b n.kids) => (show Calls Try.prog 8 #[.agg #[.bool n.leaf, .slice a n.cells.length c, .slice b n.kids.length d]] W fun e w' => e = .returned (.tuple #[.string T, .int .i64 er]) ∧ Below W.heap.size W w' from by
    have h := write_nd n a b c d W HSZ.out h1 h2
    rw [hpe] at h
    rw [hT]; exact h))
  have HPF := Lib.hid (fun W a b (c d : Nat) (hr : Rising n.cells) (h : Cls W a n.cells) => (show Calls Try.prog 17 #[.agg #[.bool n.leaf, .slice a n.cells.length c, .slice b n.kids.length d], .string S] W fun e w' => e = .returned (.tuple #[.int .i64 (lesN n.cells key), .bool (isN n.cells key)]) ∧ Below W.heap.size W w' from by rw [hS]; exact find_any n.leaf n.cells n.kids.length a b c d key W hz.cl hr h))
  have HRN := Lib.hid (fun (q : List UInt8) (hq : q.length ≠ 512) (hq2 : q.length ≤ 100000) W => (show Calls Try.prog 13 #[.string (nb q)] W fun e w' => e = .returned (.tuple #[.agg #[.bool false, .slice none 0 0, .slice none 0 0], .int .i64 32]) ∧ Below W.heap.size W w' from by
    have h := read_any q W hq2
    rw [rd_other hq] at h
    exact h))
  have HCF := Lib.hid (fun W (hB : Below w1.heap.size w1 W) => show W.cell? ⟨w.heap.size, 0, none⟩ = some (.bool leaf) ∧ W.cell? ⟨w.heap.size, 1, none⟩ = some (.slice ca n.cells.length cc) ∧ W.cell? ⟨w.heap.size, 2, none⟩ = some (.slice ka n.kids.length kc) from by
    have h := blk_below hb hB
    exact ⟨blk_cell h 0 rfl, blk_cell h 1 rfl, blk_cell h 2 rfl⟩)
  have HB1 := Lib.hid hw; have HW1 := Lib.hid hw1; have HPE := Lib.hid hpe; have HT := Lib.hid hT; have HKY := Lib.hid hkey; have hle := hz.cl
  clear hc hk hz hb hw hw1 hlf hpe hT hS hn hkey
  have kk := fun W => works16_any W
  go_enter Try.func6, Try.ntmps6
  go_upto_region 1 with (fail)
  rw [← HW1.out]
  go_upto_region 3 with (go_at_call 15; (with_reducible refine (kk _).mono ?_); rintro e w2 ⟨rfl, hb2⟩; have HB2 := Lib.hid hb2; clear hb2)
  obtain ⟨j0, j1, j2⟩ := HCF.out _ HB2.out
  have kg := HGR.out _ HB2.out
  go_upto_if 20 with (go_at_call 7; (with_reducible refine kg.mono ?_); rintro e w3 ⟨z, rfl, hz, hb3⟩; have HZ := Lib.hid hz; have HB3 := Lib.hid (HB2.out.trans (hb3.mono HB2.out.size)); clear hb3 hz)
  cases z with
  | true =>
    go_upto_region 4 with (fail)
    repeat go_step
    go_ret
    exact ⟨rfl, HB1.out.trans (HB3.out.mono HB1.out.size)⟩
  | false =>
    have ko := HOW.out (HZ.out rfl) _ HB3.out
    clear j0 j1 j2 HGR HOW kg HZ
    obtain ⟨j0, j1, j2⟩ := HCF.out _ HB3.out
    go_upto_region 6 with (go_at_call 9; (with_reducible refine ko.mono ?_); rintro e w5 ⟨a5, c5, b5, d5, rfl, -, hc5, hk5, hb5⟩; have HC5 := Lib.hid hc5; have HK5 := Lib.hid hk5; have HB5 := Lib.hid (HB3.out.trans (hb5.mono HB3.out.size)); clear hb5 hc5 hk5)
    clear j0 j1 j2 ko
    have hx := blk_new w5 32 #[.bool n.leaf, .slice a5 n.cells.length c5, .slice b5 n.kids.length d5]
    have hxw := blw1 w5 (.cells #[.bool n.leaf, .slice a5 n.cells.length c5, .slice b5 n.kids.length d5] 32)
    obtain ⟨w6, hw6⟩ : ∃ W, W = w5.alloc (.cells #[.bool n.leaf, .slice a5 n.cells.length c5, .slice b5 n.kids.length d5] 32) := ⟨_, rfl⟩
    obtain ⟨gx, hgx⟩ : ∃ g, g = w5.heap.size := ⟨_, rfl⟩
    rw [← hw6, ← hgx]
    rw [← hw6, ← hgx] at hx
    rw [← hw6] at hxw
    have HX := Lib.hid (fun W (h : Below w6.heap.size w6 W) => (show W.cell? ⟨gx, 0, none⟩ = some (.bool n.leaf) ∧ W.cell? ⟨gx, 1, none⟩ = some (.slice a5 n.cells.length c5) ∧ W.cell? ⟨gx, 2, none⟩ = some (.slice b5 n.kids.length d5) from ⟨blk_cell (blk_below hx h) 0 rfl, blk_cell (blk_below hx h) 1 rfl, blk_cell (blk_below hx h) 2 rfl⟩))
    have HC6 := Lib.hid (cls_next HC5.out hxw); have HK6 := Lib.hid (kds_next HK5.out hxw)
    have HB6 := Lib.hid (HB1.out.trans ((HB5.out.trans (hxw.mono HB5.out.size)).mono HB1.out.size))
    clear hx hxw hw6 hgx HC5 HK5 HB5 HB3 HB2 HC1 HK1 HCF
    obtain ⟨x0, x1, x2⟩ := HX.out _ (Below.refl _ _)
    have kw := HPW.out _ a5 b5 c5 d5 HC6.out HK6.out
    by_cases h0 : er = 0
    · subst h0
      obtain ⟨hris, hp512⟩ := wri_ris HPE.out
      have HRI := Lib.hid hris
      have HP5 := Lib.hid hp512
      have hts : T.size = 512 := by rw [HT.out, nb_size, hp512]
      obtain ⟨hz1, hz2⟩ := wrap_bd c
      obtain ⟨u, hu⟩ : ∃ u, u = IntKind.u64.wrap c := ⟨_, rfl⟩
      have hwu : IntKind.u64.wrap c = u := hu.symm
      rw [← hu] at hz1 hz2
      have hw512 : IntKind.u64.wrap 512 = 512 := by rw [IntKind.wrap_u64]; omega
      obtain ⟨q, hq⟩ : ∃ q : Nat, u % 512 = (q : Int) := ⟨(u % 512).toNat, by have := Int.emod_nonneg u (show (512 : Int) ≠ 0 by omega); omega⟩
      have hq2 : (q : Int) < 512 := by have := Int.emod_lt_of_pos u (show (0 : Int) < 512 by omega); omega
      have ht2 : Int.tmod u 512 = (q : Int) := by rw [Int.tmod_eq_emod_of_nonneg hz1]; exact hq
      have hwq : IntKind.i64.wrap (q : Int) = (q : Int) := IntWalk.i64_in _ ⟨by omega, by omega⟩
      have q1 : (q : Int) ≤ 512 := by omega
      have q2 : q ≤ 512 := by omega
      have hex := nb_ext p 0 q
      rw [← HT.out, List.drop_zero, Nat.sub_zero] at hex
      have kr1 := fun W => HRN.out (p.take q) (by rw [List.length_take, hp512]; omega) (by rw [List.length_take, hp512]; omega) W
      have kr2 := fun W => HRN.out (p ++ [0]) (by rw [List.length_append, hp512]; decide) (by rw [List.length_append, hp512]; decide) W
      obtain ⟨T1, hT1⟩ : ∃ T, T = nb (p.take q) := ⟨_, rfl⟩
      obtain ⟨T2, hT2⟩ : ∃ T, T = nb (p ++ [0]) := ⟨_, rfl⟩
      have hap : T ++ ⟨#[0]⟩ = T2 := by rw [HT.out, hT2, show (⟨#[0]⟩ : ByteArray) = nb [0] from rfl, nb_app]
      rw [← hT1] at kr1 hex
      rw [← hT2] at kr2
      clear hu hq hT1 hT2 hris hp512 hz1 hz2
      go_upto_region 9 with (go_at_call 8; (with_reducible refine kw.mono ?_); rintro e w7 ⟨rfl, hb7⟩; have HB7 := Lib.hid hb7; clear hb7)
      clear x0 x1 x2 kw
      go_upto_region 10 with (go_at_call 13; (try rw [hex]); (with_reducible refine (kr1 _).mono ?_); rintro e w8 ⟨rfl, hb8⟩; have HB8 := Lib.hid (HB7.out.trans (hb8.mono HB7.out.size)); clear hb8)
      have HB9 := Lib.hid (HB8.out.alloc HB8.out.size (.cells #[.bool false, .slice none 0 0, .slice none 0 0] 32))
      generalize w8.alloc (.cells #[.bool false, .slice none 0 0, .slice none 0 0] 32) = w9 at *
      go_upto_region 11 with (go_at_call 13; (try rw [hap]); (with_reducible refine (kr2 _).mono ?_); rintro e w10 ⟨rfl, hb10⟩; have HB10 := Lib.hid (HB9.out.trans (hb10.mono HB9.out.size)); clear hb10)
      have HB11 := Lib.hid (HB10.out.alloc HB10.out.size (.cells #[.bool false, .slice none 0 0, .slice none 0 0] 32))
      generalize w10.alloc (.cells #[.bool false, .slice none 0 0, .slice none 0 0] 32) = w11 at *
      obtain ⟨x0, x1, x2⟩ := HX.out _ HB11.out
      have kf := HPF.out _ a5 b5 c5 d5 HRI.out (cls_next HC6.out HB11.out)
      have HLI := Lib.hid (fun i (hi : i < n.cells.length) => les_iff HRI.out key hi)
      have HIS := Lib.hid (fun h : isN n.cells key = true => is_at h)
      obtain ⟨k, hk⟩ : ∃ k, k = lesN n.cells key := ⟨_, rfl⟩
      obtain ⟨r, hr⟩ : ∃ k, k = isN n.cells key := ⟨_, rfl⟩
      rw [← hk, ← hr] at kf
      have HK := Lib.hid hk; have HR := Lib.hid hr
      clear hk hr HB7 HB8 HB9 HB10 hwu hw512 ht2 hex hap kr1 kr2 hts
      obtain ⟨len, hlen⟩ : ∃ b, b = n.cells.length := ⟨_, rfl⟩
      obtain ⟨kn, hkn⟩ : ∃ b, b = n.kids.length := ⟨_, rfl⟩
      have HL := Lib.hid hlen
      rw [← hlen] at x1 kf hle
      rw [← hkn] at x2 kf
      rw [← hlen, ← hkn] at HX
      clear hlen hkn
      go_upto_region 12 with (go_at_call 17; (with_reducible refine kf.mono ?_); rintro e w12 ⟨rfl, hb12⟩; have HB12 := Lib.hid (HB11.out.trans (hb12.mono HB11.out.size)); clear hb12)
      clear x0 x1 x2 kf HB11
      go_wp2_with fail
      go_loopw [16] (fun s16 wr => ∃ i : Nat, s16 = .int .i64 i ∧ i ≤ len ∧ Hid (Below w6.heap.size w6 wr)) (fun s16 _ => len - (intOf s16).toNat)
      case atStart => exact ⟨0, rfl, by omega, HB12⟩
      case round =>
        clear HB12
        obtain ⟨i, rfl, hi, hB⟩ := hrel
        obtain ⟨x0, x1, x2⟩ := HX.out _ hB.out
        by_cases hlt : i < len
        · have t1 : (i : Int) < len := by omega
          have hlt' : i < n.cells.length := by have := HL.out; omega
          obtain ⟨b, off, rfl, hbw, c0, -⟩ := (cls_next HC6.out hB.out) i hlt'
          have hle2 := HLI.out i hlt'
          have hae : r = true → i = k → (nb n.cells[i].key).toList = S.toList := fun h1 h2 => by
            obtain ⟨h3, h4⟩ := HIS.out (by rw [← HR.out]; exact h1)
            have h5 : n.cells[i].key = key := by
              have h6 : i = lesN n.cells key := by rw [← HK.out]; exact h2
              subst h6
              exact h4
            rw [h5, nb_toList, HKY.out, ByteArray.toList_eq]
          rw [← HK.out] at hle2
          obtain ⟨x, hx⟩ : ∃ x, x = n.cells[i] := ⟨_, rfl⟩
          rw [← hx] at c0 hle2 hae
          have hr2 : Op.bytesLess (nb x.key).toList S.toList = decide (i < k) := by rw [nb_toList, ByteArray.toList_eq, ← HKY.out]; exact hle2
          have HAE := Lib.hid hae
          clear hx hle2 hae
          generalize nb x.key = KX at *
          by_cases hik : i < k
          · have t2 : (i : Int) < k := by omega
            have t3 : ¬ (i : Int) = k := by omega
            have t4 : ((i : Int) == k) = false := by simpa using t3
            rw [decide_eq_true hik] at hr2
            cases r
            all_goals go_wp2
            all_goals go_roundw
            all_goals first
              | exact ⟨i + 1, by go_num, by omega, hB⟩
              | (simp only [intOf]; omega)
          · have t2 : ¬ (i : Int) < k := by omega
            rw [decide_eq_false hik] at hr2
            cases r with
            | false =>
              go_wp2
              go_roundw
              case rel => exact ⟨i + 1, by go_num, by omega, hB⟩
              case measure => simp only [intOf]; omega
            | true =>
              by_cases hek : i = k
              · have t3 : (i : Int) = k := by omega
                have t4 : ((i : Int) == k) = true := by simpa using t3
                have hxe := HAE.out rfl hek
                have hxe2 : (KX.toList == S.toList) = true := by rw [hxe]; simp
                clear hxe HAE t3 hek
                go_wp2
                go_roundw
                case rel => exact ⟨i + 1, by go_num, by omega, hB⟩
                case measure => simp only [intOf]; omega
              · have t3 : ¬ (i : Int) = k := by omega
                have t4 : ((i : Int) == k) = false := by simpa using t3
                go_wp2
                go_roundw
                case rel => exact ⟨i + 1, by go_num, by omega, hB⟩
                case measure => simp only [intOf]; omega
        · obtain rfl : i = len := by omega
          have t1 : ¬ (i : Int) < i := by omega
          have HKL := Lib.hid (show r = true → k < i from fun h => by
            obtain ⟨h3, -⟩ := HIS.out (by rw [← HR.out]; exact h)
            rw [← HK.out] at h3
            have := HL.out
            omega)
          have HBF := Lib.hid (HB6.out.trans (hB.out.mono HB6.out.size))
          clear hlt
          cases r with
          | false =>
            go_upto_region 17 with (fail)
            repeat go_step
            go_ret
            exact ⟨rfl, HBF.out⟩
          | true =>
            have t5 : (k : Int) < i := by have := HKL.out rfl; omega
            go_upto_region 17 with (fail)
            repeat go_step
            go_ret
            exact ⟨rfl, HBF.out⟩
    · have hp := wri_err HPE.out h0
      have hT0 : T = ⟨#[]⟩ := by rw [HT.out, hp]; rfl
      have t1 : (er != 0) = true := by simpa using h0
      clear HT
      subst hT0
      clear h0 hp
      go_upto_region 7 with (go_at_call 8; (with_reducible refine kw.mono ?_); rintro e w7 ⟨rfl, hb7⟩; have HB7 := Lib.hid (HB6.out.trans (hb7.mono HB6.out.size)); clear hb7)
      go_upto_region 8 with (fail)
      repeat go_step
      go_ret
      exact ⟨rfl, HB7.out⟩
theorem ncut_any (n : Nod) (ca ka : Option Addr) (cc kc : Nat) (S : ByteArray) (c : Int) (w : World) (hz : NdSz n) (hc : Cls w ca n.cells) (hk : Kds w ka n.kids) (hn : ka = none → kc = 0) :
    Calls Try.prog 6 #[.agg #[.bool n.leaf, .slice ca n.cells.length cc, .slice ka n.kids.length kc], .string S, .int .i64 c] w fun e w' => e = .returned (.bool true) ∧ Below w.heap.size w w' :=
  ncut_leaf n.leaf n rfl ca ka cc kc S c w hz hc hk hn
end Go.Proofs.Ytdpjmijdlheajaa
