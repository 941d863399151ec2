/-
  The statement NodeFinds as a walk: it returns true for every input and changes nothing that was there. Condition: sizes as memory bears them.
-/
import Derived.Test.YtdpjmijdlheajaaNdLaw1
namespace Go.Proofs.Ytdpjmijdlheajaa
open Go.RowKit

set_option maxRecDepth 100000 in
set_option maxHeartbeats 4000000 in
theorem nfinds_leaf (leaf : Bool) (n : Nod) (hlf : leaf = n.leaf) (ca ka : Option Addr) (cc kc : Nat) (S : ByteArray) (w : World) (hz : NdSz n) (hc : Cls w ca n.cells) (hk : Kds w ka n.kids) (hn : ka = none → kc = 0) :
    Calls Try.prog 5 #[.agg #[.bool leaf, .slice ca n.cells.length cc, .slice ka n.kids.length kc], .string S] w fun e w' => e = .returned (.bool true) ∧ Below w.heap.size w w' := by
  obtain ⟨p, hp⟩ : ∃ s, s = S.data.toList := ⟨_, rfl⟩
  have hS : S = nb p := by rw [hp, nb_back]
  have hb := blk_new w 25 #[.bool leaf, .slice ca n.cells.length cc, .slice ka n.kids.length kc]
  have hw := blw1 w (.cells #[.bool leaf, .slice ca n.cells.length cc, .slice ka n.kids.length kc] 25)
  obtain ⟨w1, hw1⟩ : ∃ w1, w1 = w.alloc (.cells #[.bool leaf, .slice ca n.cells.length cc, .slice ka n.kids.length kc] 25) := ⟨_, rfl⟩
  rw [← hw1] at hb hw
  have HC1 := Lib.hid (cls_next hc hw); have HK1 := Lib.hid (kds_next hk hw)
  have HGR := Lib.hid (fun W (h : Below w1.heap.size w1 W) => (show Calls Try.prog 7 #[.agg #[.bool leaf, .slice ca n.cells.length cc, .slice ka n.kids.length kc]] W (GrtN n W) from by rw [hlf]; exact ngreat_any n ca ka cc kc W hz (cls_next HC1.out h)))
  have HOW := Lib.hid (fun W (h : Below w1.heap.size w1 W) (hf : FineN n) => own_leaf leaf n hlf ca ka cc kc W hf (cls_next HC1.out h) (kds_next HK1.out h) hn)
  have HFD := Lib.hid (fun W (h : Below w1.heap.size w1 W) => (show Calls Try.prog 18 #[.agg #[.bool leaf, .slice ca n.cells.length cc, .slice ka n.kids.length kc], .string S] W fun e w' => e = .returned (.tuple #[.int .i64 (lesN n.cells p), .bool (isN n.cells p)]) ∧ Below W.heap.size W w' from by rw [hlf, hp]; exact rfind_any n ca ka cc kc S W hz (cls_next HC1.out h)))
  have HPF := Lib.hid (fun W a b (c d : Nat) (hr : Rising n.cells) (h : Cls W a n.cells) => (show Calls Try.prog 17 #[.agg #[.bool n.leaf, .slice a n.cells.length c, .slice b n.kids.length d], .string S] W fun e w' => e = .returned (.tuple #[.int .i64 (lesN n.cells p), .bool (isN n.cells p)]) ∧ Below W.heap.size W w' from by rw [hS]; exact find_any n.leaf n.cells n.kids.length a b c d p W hz.cl hr h))
  have hle := hz.cl
  obtain ⟨len, hlen⟩ : ∃ b, b = n.cells.length := ⟨_, rfl⟩
  obtain ⟨kn, hkn⟩ : ∃ b, b = n.kids.length := ⟨_, rfl⟩
  rw [← hlen] at hle
  rw [← hlen, ← hkn] at hw1 hb HGR HOW HFD
  rw [← hlen, ← hkn]
  have HCF := Lib.hid (fun W (hB : Below w1.heap.size w1 W) => show W.cell? ⟨w.heap.size, 0, none⟩ = some (.bool leaf) ∧ W.cell? ⟨w.heap.size, 1, none⟩ = some (.slice ca len cc) ∧ W.cell? ⟨w.heap.size, 2, none⟩ = some (.slice ka kn kc) from by
    have h := blk_below hb hB
    exact ⟨blk_cell h 0 rfl, blk_cell h 1 rfl, blk_cell h 2 rfl⟩)
  have HB1 := Lib.hid hw; have HW1 := Lib.hid hw1; have HL := Lib.hid hlen; have HKN := Lib.hid hkn; have HLF := Lib.hid hlf
  clear hlen hkn hc hk hz hb hw hw1 hlf hp hS hn
  obtain ⟨j0, j1, j2⟩ := HCF.out _ (Below.refl _ _)
  have kg := HGR.out _ (Below.refl _ _)
  go_enter Try.func5, Try.ntmps5
  go_upto_region 1 with (fail)
  rw [← HW1.out]
  obtain ⟨GQ, hGQ⟩ : ∃ G : World → Ending → World → Prop, G = GrtN n := ⟨_, rfl⟩
  go_upto_if 11 with (go_at_call 7; (with_reducible refine kg.mono ?_); rintro e w2 ⟨z, rfl, hz, hb2⟩; have HZ := Lib.hid hz; have HB2 := Lib.hid hb2; clear hb2 hz)
  cases z with
  | true =>
    go_wp2
    go_ret
    exact ⟨rfl, HB1.out.trans (HB2.out.mono HB1.out.size)⟩
  | false =>
    have HFN := Lib.hid (HZ.out rfl)
    have kk := fun W => works16_any W
    clear HZ j0 j1 j2 kg HGR hGQ
    go_wp2_with fail
    go_loopw [5] (fun s5 wr => ∃ k : Nat, s5 = .int .i64 k ∧ 1 ≤ k ∧ k ≤ len + 1 ∧ Hid (∀ j, j < k → RisAt n.cells j) ∧ Hid (Below w1.heap.size w1 wr)) (fun s5 _ => len + 1 - (intOf s5).toNat)
    case atStart => exact ⟨1, rfl, by omega, by omega, Lib.hid (fun j h _ h0 => absurd h0 (by omega)), HB2⟩
    case round =>
      clear HB2
      obtain ⟨k, rfl, hk1, hk2, hA, hB⟩ := hrel
      obtain ⟨j0, j1, j2⟩ := HCF.out _ hB.out
      have HBW := Lib.hid (HB1.out.trans (hB.out.mono HB1.out.size))
      by_cases hlt : k < len
      · have t1 : (k : Int) < len := by omega
        have hlt' : k < n.cells.length := by have := HL.out; omega
        obtain ⟨b, off, rfl, hbw, c0, -⟩ := (cls_next HC1.out hB.out) k hlt'
        obtain ⟨b2, off2, he, -, p0, -⟩ := (cls_next HC1.out hB.out) (k - 1) (by omega)
        cases he
        obtain ⟨x, hx⟩ : ∃ x, x = n.cells[k] := ⟨_, rfl⟩
        obtain ⟨y, hy⟩ : ∃ y, y = n.cells[k - 1]'(by omega) := ⟨_, rfl⟩
        rw [← hx] at c0
        rw [← hy] at p0
        have w1k : IntKind.i64.wrap ((k : Int) - 1) = (k : Int) - 1 := IntWalk.i64_in _ ⟨by omega, by omega⟩
        obtain ⟨k1, hk1e⟩ : ∃ k1 : Nat, k1 = k - 1 := ⟨_, rfl⟩
        have hkk : (k : Int) - 1 = (k1 : Int) := by omega
        rw [hkk] at w1k
        rw [← hk1e] at p0
        have q1 : (k1 : Int) < len := by omega
        have q2 : k1 < len := by omega
        have q3 : ¬ (k1 : Int) < 0 := by omega
        have hls := fun W => ngeq_run y.key x.key W
        cases hlb : Op.bytesLess y.key x.key with
        | true =>
          have HNX := Lib.hid (show ∀ j, j < k + 1 → RisAt n.cells j from fun j hj => by
            by_cases e : j < k
            · exact hA.out j e
            · obtain rfl : j = k := by omega
              intro h h0
              rw [← hx, ← hy]
              exact hlb)
          simp only [hlb, Bool.not_true] at hls
          clear hlb hy hx hk1e
          go_upto_region 6 with (fail)
          go_quiet (fail)
          all_goals go_wp2
          all_goals go_roundw
          all_goals first
            | exact ⟨k + 1, by go_num, by omega, by omega, HNX, Lib.hid (hB.out.trans ⟨rfl, rfl, rfl, Nat.le_refl _, fun _ _ => rfl⟩)⟩
            | (simp only [intOf]; omega)
        | false =>
          simp only [hlb, Bool.not_false] at hls
          clear hlb hy hx hk1e
          go_upto_region 6 with (fail)
          go_quiet (fail)
          all_goals go_wp2
          all_goals go_ret
          all_goals exact ⟨rfl, HBW.out.trans ⟨rfl, rfl, rfl, Nat.le_refl _, fun _ _ => rfl⟩⟩
      · have t1 : ¬ (k : Int) < len := by omega
        have HRI := Lib.hid (show Rising n.cells from fun j h h0 => hA.out j (by have := HL.out; omega) h h0)
        have ko := HOW.out _ hB.out HFN.out
        clear hA hk1 hk2 hlt
        go_upto_region 8 with (fail)
        go_upto_region 9 with (first
          | (go_at_call 9; (with_reducible refine ko.mono ?_); rintro e w5 ⟨a5, c5, b5, d5, rfl, -, hc5, -, hb5⟩; have HC5 := Lib.hid hc5; have HB5 := Lib.hid (hB.out.trans (hb5.mono hB.out.size)); clear hb5 hc5)
          | (go_at_call 17; (with_reducible refine (HPF.out _ _ _ _ _ HRI.out HC5.out).mono ?_); rintro e w6 ⟨rfl, hb6⟩; have HB6 := Lib.hid (HB5.out.trans (hb6.mono HB5.out.size)); clear hb6))
        clear j0 j1 j2
        obtain ⟨j0, j1, j2⟩ := HCF.out _ HB6.out
        have kf := HFD.out _ HB6.out
        have e1 : ((lesN n.cells p : Int) == (lesN n.cells p : Int)) = true := by simp
        have e2 : (isN n.cells p == isN n.cells p) = true := by cases isN n.cells p <;> rfl
        generalize lesN n.cells p = q at *
        generalize isN n.cells p = r at *
        go_wp2_with (first
          | (go_at_call 18; (with_reducible refine kf.mono ?_); rintro e w7 ⟨rfl, hb7⟩; have HB7 := Lib.hid (HB6.out.trans (hb7.mono HB6.out.size)); clear hb7)
          | (go_at_call 15; (with_reducible refine (kk _).mono ?_); rintro e w8 ⟨rfl, hb8⟩; have HB8 := Lib.hid (HB7.out.trans (hb8.mono HB7.out.size)); clear hb8))
        go_ret
        exact ⟨rfl, HB1.out.trans (HB8.out.mono HB1.out.size)⟩
theorem nfinds_any (n : Nod) (ca ka : Option Addr) (cc kc : Nat) (S : ByteArray) (w : World) (hz : NdSz n) (hc : Cls w ca n.cells) (hk : Kds w ka n.kids) (hn : ka = none → kc = 0) :
    Calls Try.prog 5 #[.agg #[.bool n.leaf, .slice ca n.cells.length cc, .slice ka n.kids.length kc], .string S] w fun e w' => e = .returned (.bool true) ∧ Below w.heap.size w w' :=
  nfinds_leaf n.leaf n rfl ca ka cc kc S w hz hc hk hn
end Go.Proofs.Ytdpjmijdlheajaa
