/-
  The statements NodeReads and NodeWrites as walks: they return true for every input and change nothing that was there. Condition: sizes as memory bears them.
-/
import Derived.Test.YtdpjmijdlheajaaNdWorks
namespace Go.Proofs.Ytdpjmijdlheajaa
open Go.RowKit

theorem rdq_bytes {s : List UInt8} {n : Nod} (h : rdN s = some n) : wriN n = (s, 0) := rd_iff.1 h
theorem rd_sz {s : List UInt8} {n : Nod} (h : rdN s = some n) : NdSz n := by
  rw [rd_par] at h
  split at h
  · cases h
  · rename_i m hm
    split at h
    · rw [← Option.some.inj h]; exact par_sz hm
    · cases h
set_option maxRecDepth 100000 in
set_option maxHeartbeats 4000000 in
theorem nreads_any (S : ByteArray) (w : World) : Calls Try.prog 4 #[.string S] w fun e w' => e = .returned (.bool true) ∧ Below w.heap.size w w' := by
  by_cases h2 : 2000 < S.size
  · have h2' : (2000 : Int) < (S.size : Int) := by omega
    go_enter Try.func4, Try.ntmps4
    go_wp2
    go_ret
    exact ⟨rfl, Below.refl _ _⟩
  · have h2' : ¬ (2000 : Int) < (S.size : Int) := by omega
    obtain ⟨s, hs⟩ : ∃ s, s = S.data.toList := ⟨_, rfl⟩
    have hS : S = nb s := by rw [hs, nb_back]
    have hl : s.length ≤ 100000 := by rw [hs]; simp; omega
    have kp := fun W => read_any s W hl
    have kq := fun W => rread_any s W hl
    rw [← hS] at kp kq
    have kk := fun W => works16_any W
    cases hrd : rdN s with
    | none =>
      rw [hrd] at kp kq
      unfold RdQ at kp kq
      simp only at kp kq
      have ks := fun W => same_any ⟨false, [], []⟩ none none none none 0 0 0 0 W ⟨by decide, by decide, (fun k h => absurd h (Nat.not_lt_zero k)), fun k h => absurd h (Nat.not_lt_zero k)⟩ (cls0 W none) (kds0 W none) (cls0 W none) (kds0 W none)
      simp only [List.length_nil] at ks
      clear hrd hS hs hl
      go_enter Try.func4, Try.ntmps4
      go_upto_region 4 with (go_at_call 13; (with_reducible refine (kp _).mono ?_); rintro e w2 ⟨rfl, hb2⟩; have HB2 := Lib.hid hb2; clear hb2)
      have hn := blk_new w2 32 #[.bool false, .slice none 0 0, .slice none 0 0]
      have HB3 := Lib.hid (HB2.out.alloc HB2.out.size (.cells #[.bool false, .slice none 0 0, .slice none 0 0] 32))
      generalize w2.alloc (.cells #[.bool false, .slice none 0 0, .slice none 0 0] 32) = w3 at *
      have HN := Lib.hid (fun W (h : Below w3.heap.size w3 W) => blk_below hn h)
      clear hn
      go_upto_region 5 with (go_at_call 16; (with_reducible refine (kq _).mono ?_); rintro e w4 ⟨rfl, hb4⟩; have HB4 := Lib.hid (HB3.out.trans (hb4.mono HB3.out.size)); have HN4 := Lib.hid (HN.out _ hb4); clear hb4)
      have hm := blk_new w4 25 #[.bool false, .slice none 0 0, .slice none 0 0]
      have hn5 := blk_alloc HN4.out (.cells #[.bool false, .slice none 0 0, .slice none 0 0] 25)
      have HB5 := Lib.hid (HB4.out.alloc HB4.out.size (.cells #[.bool false, .slice none 0 0, .slice none 0 0] 25))
      generalize w4.alloc (.cells #[.bool false, .slice none 0 0, .slice none 0 0] 25) = w5 at *
      have c0 := blk_cell hn5 0 rfl; have c1 := blk_cell hn5 1 rfl; have c2 := blk_cell hn5 2 rfl
      have d0 := blk_cell hm 0 rfl; have d1 := blk_cell hm 1 rfl; have d2 := blk_cell hm 2 rfl
      clear hn5 hm
      go_wp2_with (first
        | (go_at_call 14; (with_reducible refine (ks _).mono ?_); rintro e w6 ⟨rfl, hb6⟩; have HB6 := Lib.hid (HB5.out.trans (hb6.mono HB5.out.size)); clear hb6)
        | (go_at_call 15; (with_reducible refine (kk _).mono ?_); rintro e w7 ⟨rfl, hb7⟩; have HB7 := Lib.hid (HB6.out.trans (hb7.mono HB6.out.size)); clear hb7))
      go_ret
      exact ⟨rfl, HB7.out⟩
    | some n =>
      rw [hrd] at kp kq
      have HSZ := Lib.hid (rd_sz hrd)
      unfold RdQ ndV at kp kq
      simp only at kp kq
      have HS := Lib.hid (fun ca ka da ea cc kc dc ec W (h1 : Cls W ca n.cells) (h2 : Kds W ka n.kids) (h3 : Cls W da n.cells) (h4 : Kds W ea n.kids) => same_any n ca ka da ea cc kc dc ec W HSZ.out h1 h2 h3 h4)
      clear hrd hS hs hl
      go_enter Try.func4, Try.ntmps4
      go_upto_region 4 with (go_at_call 13; (with_reducible refine (kp _).mono ?_); rintro e w2 ⟨ca, cc, ka, kc, rfl, -, hc, hk, hb2⟩; have HB2 := Lib.hid hb2; have HC := Lib.hid hc; have HK := Lib.hid hk; clear hb2 hc hk)
      have hn := blk_new w2 32 #[.bool n.leaf, .slice ca n.cells.length cc, .slice ka n.kids.length kc]
      have HB3 := Lib.hid (HB2.out.alloc HB2.out.size (.cells #[.bool n.leaf, .slice ca n.cells.length cc, .slice ka n.kids.length kc] 32))
      have HC3 := Lib.hid (cls_alloc HC.out (.cells #[.bool n.leaf, .slice ca n.cells.length cc, .slice ka n.kids.length kc] 32))
      have HK3 := Lib.hid (kds_alloc HK.out (.cells #[.bool n.leaf, .slice ca n.cells.length cc, .slice ka n.kids.length kc] 32))
      generalize w2.alloc (.cells #[.bool n.leaf, .slice ca n.cells.length cc, .slice ka n.kids.length kc] 32) = w3 at *
      have HN := Lib.hid (fun W (h : Below w3.heap.size w3 W) => blk_below hn h)
      clear hn
      go_upto_region 5 with (go_at_call 16; (with_reducible refine (kq _).mono ?_); rintro e w4 ⟨da, dc, ea, ec, rfl, -, hc, hk, hb4⟩; have HB4 := Lib.hid (HB3.out.trans (hb4.mono HB3.out.size)); have HN4 := Lib.hid (HN.out _ hb4); have HC4 := Lib.hid (cls_next HC3.out hb4); have HK4 := Lib.hid (kds_next HK3.out hb4); have HD4 := Lib.hid hc; have HE4 := Lib.hid hk; clear hb4 hc hk)
      have hm := blk_new w4 25 #[.bool n.leaf, .slice da n.cells.length dc, .slice ea n.kids.length ec]
      have hn5 := blk_alloc HN4.out (.cells #[.bool n.leaf, .slice da n.cells.length dc, .slice ea n.kids.length ec] 25)
      have HB5 := Lib.hid (HB4.out.alloc HB4.out.size (.cells #[.bool n.leaf, .slice da n.cells.length dc, .slice ea n.kids.length ec] 25))
      have ks := HS.out ca ka da ea cc kc dc ec _ (cls_alloc HC4.out (.cells #[.bool n.leaf, .slice da n.cells.length dc, .slice ea n.kids.length ec] 25)) (kds_alloc HK4.out _) (cls_alloc HD4.out _) (kds_alloc HE4.out _)
      generalize w4.alloc (.cells #[.bool n.leaf, .slice da n.cells.length dc, .slice ea n.kids.length ec] 25) = w5 at *
      have c0 := blk_cell hn5 0 rfl; have c1 := blk_cell hn5 1 rfl; have c2 := blk_cell hn5 2 rfl
      have d0 := blk_cell hm 0 rfl; have d1 := blk_cell hm 1 rfl; have d2 := blk_cell hm 2 rfl
      clear hn5 hm
      go_wp2_with (first
        | (go_at_call 14; (with_reducible refine ks.mono ?_); rintro e w6 ⟨rfl, hb6⟩; have HB6 := Lib.hid (HB5.out.trans (hb6.mono HB5.out.size)); clear hb6)
        | (go_at_call 15; (with_reducible refine (kk _).mono ?_); rintro e w7 ⟨rfl, hb7⟩; have HB7 := Lib.hid (HB6.out.trans (hb7.mono HB6.out.size)); clear hb7))
      go_ret
      exact ⟨rfl, HB7.out⟩
end Go.Proofs.Ytdpjmijdlheajaa
