/-
  The statement NodeWrites as a walk: it returns true for every input and changes nothing that was there. Condition: sizes as memory bears them.
-/
import Derived.Test.YtdpjmijdlheajaaNdLaw2
namespace Go.Proofs.Ytdpjmijdlheajaa
open Go.RowKit

theorem wri_rd {n : Nod} {p : List UInt8} {er : Int} (h : wriN n = (p, er)) : p.length ≤ 512 ∧ (er = 0 → rdN p = some n) ∧ (er ≠ 0 → rdN p = none) := by
  by_cases hr : RightN n
  · by_cases hl : 512 < (encN n).length
    · rw [wri_full hr hl] at h
      injection h with h1 h2
      subst h1 h2
      exact ⟨by decide, (fun h => nomatch h), fun _ => rd_other (by decide)⟩
    · have h3 := h
      rw [wri_yes hr hl] at h
      injection h with h1 h2
      subst h1 h2
      exact ⟨by rw [List.length_append, List.length_replicate]; omega, fun _ => rd_iff.2 h3, fun h => absurd rfl h⟩
  · rw [wri_no hr] at h
    injection h with h1 h2
    subst h1 h2
    exact ⟨by decide, (fun h => nomatch h), fun _ => rd_other (by decide)⟩
set_option maxRecDepth 100000 in
set_option maxHeartbeats 8000000 in
theorem nwrites_leaf (leaf : Bool) (n : Nod) (hlf : leaf = n.leaf) (ca ka : Option Addr) (cc kc : Nat) (w : World) (hz : NdSz n) (hc : Cls w ca n.cells) (hk : Kds w ka n.kids) (hn : ka = none → kc = 0) :
    Calls Try.prog 3 #[.agg #[.bool leaf, .slice ca n.cells.length cc, .slice ka n.kids.length kc]] w fun e w' => e = .returned (.bool true) ∧ Below w.heap.size w w' := by
  have hb := blk_new w 25 #[.bool leaf, .slice ca n.cells.length cc, .slice ka n.kids.length kc]
  have hw := blw1 w (.cells #[.bool leaf, .slice ca n.cells.length cc, .slice ka n.kids.length kc] 25)
  obtain ⟨w1, hw1⟩ : ∃ w1, w1 = w.alloc (.cells #[.bool leaf, .slice ca n.cells.length cc, .slice ka n.kids.length kc] 25) := ⟨_, rfl⟩
  rw [← hw1] at hb hw
  have HC1 := Lib.hid (cls_next hc hw); have HK1 := Lib.hid (kds_next hk hw); have HSZ := Lib.hid hz
  obtain ⟨p, er, hpe⟩ : ∃ p er, wriN n = (p, er) := ⟨_, _, rfl⟩
  obtain ⟨hp1, hp2, hp3⟩ := wri_rd hpe
  obtain ⟨S, hS⟩ : ∃ S, S = nb p := ⟨_, rfl⟩
  obtain ⟨sz, hsz⟩ : ∃ z, z = sizN n := ⟨_, rfl⟩
  have HGR := Lib.hid (fun W (h : Below w1.heap.size w1 W) => (show Calls Try.prog 7 #[.agg #[.bool leaf, .slice ca n.cells.length cc, .slice ka n.kids.length kc]] W (GrtN n W) from by rw [hlf]; exact ngreat_any n ca ka cc kc W hz (cls_next HC1.out h)))
  have HOW := Lib.hid (fun (hf : FineN n) W (h : Below w1.heap.size w1 W) => own_leaf leaf n hlf ca ka cc kc W hf (cls_next HC1.out h) (kds_next HK1.out h) hn)
  have HPW := Lib.hid (fun W a b (c d : Nat) (h1 : Cls W a n.cells) (h2 : Kds W b n.kids) => (show Calls Try.prog 8 #[.agg #[.bool n.leaf, .slice a n.cells.length c, .slice b n.kids.length d]] W fun e w' => e = .returned (.tuple #[.string S, .int .i64 er]) ∧ Below W.heap.size W w' from by
    have h := write_nd n a b c d W HSZ.out h1 h2
    rw [hpe] at h
    rw [hS]; exact h))
  have HPS := Lib.hid (fun W a b (c d : Nat) (h1 : Cls W a n.cells) (h2 : Kds W b n.kids) => (show Calls Try.prog 11 #[.agg #[.bool n.leaf, .slice a n.cells.length c, .slice b n.kids.length d]] W fun e w' => e = .returned (.int .i64 sz) ∧ Below W.heap.size W w' from by
    rw [hsz]; exact size_leaf n.leaf n rfl a b c d W HSZ.out h1 h2))
  have HQW := Lib.hid (fun W (h : Below w1.heap.size w1 W) => (show Calls Try.prog 10 #[.agg #[.bool leaf, .slice ca n.cells.length cc, .slice ka n.kids.length kc]] W fun e w' => e = .returned (.tuple #[.string S, .int .i64 er]) ∧ Below W.heap.size W w' from by
    have h := rwrite_any n ca ka cc kc W HSZ.out (cls_next HC1.out h) (kds_next HK1.out h)
    rw [hpe] at h
    rw [hS, hlf]; exact h))
  have HQS := Lib.hid (fun W (h : Below w1.heap.size w1 W) => (show Calls Try.prog 12 #[.agg #[.bool leaf, .slice ca n.cells.length cc, .slice ka n.kids.length kc]] W fun e w' => e = .returned (.int .i64 sz) ∧ Below W.heap.size W w' from by
    rw [hsz, hlf]; exact rsize_any n ca ka cc kc W HSZ.out (cls_next HC1.out h) (kds_next HK1.out h)))
  have HRD := Lib.hid (fun W => (show Calls Try.prog 13 #[.string S] W (RdQ (rdN p) W) from by rw [hS]; exact read_any p W (by omega)))
  have HSA := Lib.hid (fun W a b (c d : Nat) (h : Below w1.heap.size w1 W) (h1 : Cls W a n.cells) (h2 : Kds W b n.kids) => (show Calls Try.prog 14 #[.agg #[.bool n.leaf, .slice a n.cells.length c, .slice b n.kids.length d], .agg #[.bool leaf, .slice ca n.cells.length cc, .slice ka n.kids.length kc]] W fun e w' => e = .returned (.bool true) ∧ Below W.heap.size W w' from by
    rw [hlf]; exact same_any n a b ca ka c d cc kc W HSZ.out h1 h2 (cls_next HC1.out h) (kds_next HK1.out h)))
  have HCF := Lib.hid (fun W (hB : Below w1.heap.size w1 W) => show (W.cell? ⟨w.heap.size, 0, none⟩ = some (.bool leaf) ∧ W.cell? ⟨w.heap.size, 1, none⟩ = some (.slice ca n.cells.length cc) ∧ W.cell? ⟨w.heap.size, 2, none⟩ = some (.slice ka n.kids.length kc)) ∧ Below w1.heap.size w1 W from by
    have h := blk_below hb hB
    exact ⟨⟨blk_cell h 0 rfl, blk_cell h 1 rfl, blk_cell h 2 rfl⟩, hB⟩)
  have HB1 := Lib.hid hw; have HW1 := Lib.hid hw1; have HP2 := Lib.hid hp2; have HP3 := Lib.hid hp3
  clear hc hk hz hb hw hw1 hlf hpe hp1 hp2 hp3 hS hsz hn
  obtain ⟨⟨j0, j1, j2⟩, -⟩ := HCF.out _ (Below.refl _ _)
  have kg := HGR.out _ (Below.refl _ _)
  have kk := fun W => works16_any W
  have e1 := self_eq S
  have e2 : (er == er) = true := by simp
  have e3 : (er != er) = false := by simp
  have e4 : (sz != sz) = false := by simp
  go_enter Try.func3, Try.ntmps3
  go_upto_region 1 with (fail)
  rw [← HW1.out]
  go_upto_if 10 with (go_at_call 7; (with_reducible refine kg.mono ?_); rintro e w2 ⟨z, rfl, hz, hb2⟩; have HZ := Lib.hid hz; have HB2 := Lib.hid hb2; clear hb2 hz)
  cases z with
  | true =>
    go_wp2
    go_ret
    exact ⟨rfl, HB1.out.trans (HB2.out.mono HB1.out.size)⟩
  | false =>
    have HOW2 := Lib.hid (HOW.out (HZ.out rfl))
    clear j0 j1 j2 HGR HOW kg
    obtain ⟨⟨j0, j1, j2⟩, -⟩ := HCF.out _ HB2.out
    have ko := HOW2.out _ HB2.out
    go_upto_region 4 with (first
      | (go_at_call 9; (with_reducible refine ko.mono ?_); rintro e w5 ⟨a5, c5, b5, d5, rfl, -, hc5, hk5, hb5⟩; have HC5 := Lib.hid hc5; have HK5 := Lib.hid hk5; have HB5 := Lib.hid (HB2.out.trans (hb5.mono HB2.out.size)); clear hb5 hc5 hk5)
      | (go_at_call 8; (with_reducible refine (HPW.out _ _ _ _ _ HC5.out HK5.out).mono ?_); rintro e w6 ⟨rfl, hb6⟩; have HB6 := Lib.hid (HB5.out.trans (hb6.mono HB5.out.size)); clear hb6))
    clear j0 j1 j2 ko
    obtain ⟨⟨j0, j1, j2⟩, -⟩ := HCF.out _ HB6.out
    have kq := HQW.out _ HB6.out
    go_upto_region 5 with (go_at_call 10; (with_reducible refine kq.mono ?_); rintro e w7 ⟨rfl, hb7⟩; have HB7 := Lib.hid (HB6.out.trans (hb7.mono HB6.out.size)); clear hb7)
    clear j0 j1 j2 kq HB5 HB6 HC5 HK5
    go_cut [37] from 22 (fun s37 wx => s37 = .bool false ∧ Hid (Below w1.heap.size w1 wx))
    case first =>
      go_region_held3 (fun W => (W.cell? ⟨w.heap.size, 0, none⟩ = some (.bool leaf) ∧ W.cell? ⟨w.heap.size, 1, none⟩ = some (.slice ca n.cells.length cc) ∧ W.cell? ⟨w.heap.size, 2, none⟩ = some (.slice ka n.kids.length kc)) ∧ Below w1.heap.size w1 W)
        (first | assumption | exact HCF.out _ HB7.out | exact HCF.out _ HB7.out.drew | exact HCF.out _ (Below.trans (And.right (by assumption)) (Below.mono (by assumption) (Below.size (And.right (by assumption))))))
        (first
          | (go_at_call 9; (with_reducible refine (HOW2.out _ (And.right (by assumption))).mono ?_); rintro e wo ⟨a5, c5, b5, d5, rfl, -, hc5, hk5, hb5⟩)
          | (go_at_call 11; (with_reducible refine (HPS.out _ _ _ _ _ (by first | assumption | exact cls_next (by assumption) (by assumption)) (by first | assumption | exact kds_next (by assumption) (by assumption))).mono ?_); rintro e ws ⟨rfl, hbs⟩)
          | (go_at_call 12; (with_reducible refine (HQS.out _ (And.right (by assumption))).mono ?_); rintro e wt ⟨rfl, hbt⟩))
      all_goals go_wp2
      all_goals go_meet
      all_goals exact ⟨rfl, Lib.hid (And.right ‹(_ ∧ _ ∧ _) ∧ Below w1.heap.size w1 _›)⟩
    case rest =>
      obtain ⟨rfl, hB8⟩ := hcut
      have kr := HRD.out wc
      clear HB7 HQW HPW HPS HQS HOW2
      by_cases h0 : er = 0
      · rw [HP2.out h0] at kr
        have h0' : (er == 0) = true := by simpa using h0
        have h0'' : (er != 0) = false := by simp [bne, h0']
        unfold RdQ ndV at kr
        simp only at kr
        clear h0
        go_upto_region 8 with (go_at_call 13; (with_reducible refine kr.mono ?_); rintro e w9 ⟨a9, c9, b9, d9, rfl, -, hc9, hk9, hb9⟩; have HB9 := Lib.hid (hB8.out.trans (hb9.mono hB8.out.size)); have HC9 := Lib.hid hc9; have HK9 := Lib.hid hk9; clear hb9 hc9 hk9)
        have hn := blk_new w9 32 #[.bool n.leaf, .slice a9 n.cells.length c9, .slice b9 n.kids.length d9]
        have HBA := Lib.hid (HB9.out.alloc HB9.out.size (.cells #[.bool n.leaf, .slice a9 n.cells.length c9, .slice b9 n.kids.length d9] 32))
        have ks := HSA.out _ a9 b9 c9 d9 HBA.out (cls_alloc HC9.out _) (kds_alloc HK9.out _)
        generalize w9.alloc (.cells #[.bool n.leaf, .slice a9 n.cells.length c9, .slice b9 n.kids.length d9] 32) = wa at *
        obtain ⟨⟨j0, j1, j2⟩, -⟩ := HCF.out _ HBA.out
        have c0 := blk_cell hn 0 rfl; have c1 := blk_cell hn 1 rfl; have c2 := blk_cell hn 2 rfl
        clear hn
        go_wp2_with (first
          | (go_at_call 14; (with_reducible refine ks.mono ?_); rintro e wb ⟨rfl, hbb⟩; have HBB := Lib.hid (HBA.out.trans (hbb.mono HBA.out.size)); clear hbb)
          | (go_at_call 15; (with_reducible refine (kk _).mono ?_); rintro e wd ⟨rfl, hbd⟩; have HBD := Lib.hid (HBB.out.trans (hbd.mono HBB.out.size)); clear hbd))
        go_ret
        exact ⟨rfl, HB1.out.trans (HBD.out.mono HB1.out.size)⟩
      · rw [HP3.out h0] at kr
        have h0' : (er == 0) = false := by simpa using h0
        have h0'' : (er != 0) = true := by simp [bne, h0']
        unfold RdQ at kr
        simp only at kr
        clear h0
        go_upto_region 8 with (go_at_call 13; (with_reducible refine kr.mono ?_); rintro e w9 ⟨rfl, hb9⟩; have HB9 := Lib.hid (hB8.out.trans (hb9.mono hB8.out.size)); clear hb9)
        have HBA := Lib.hid (HB9.out.alloc HB9.out.size (.cells #[.bool false, .slice none 0 0, .slice none 0 0] 32))
        generalize w9.alloc (.cells #[.bool false, .slice none 0 0, .slice none 0 0] 32) = wa at *
        go_wp2_with (go_at_call 15; (with_reducible refine (kk _).mono ?_); rintro e wd ⟨rfl, hbd⟩; have HBD := Lib.hid (HBA.out.trans (hbd.mono HBA.out.size)); clear hbd)
        go_ret
        exact ⟨rfl, HB1.out.trans (HBD.out.mono HB1.out.size)⟩
theorem nwrites_any (n : Nod) (ca ka : Option Addr) (cc kc : Nat) (w : World) (hz : NdSz n) (hc : Cls w ca n.cells) (hk : Kds w ka n.kids) (hn : ka = none → kc = 0) :
    Calls Try.prog 3 #[.agg #[.bool n.leaf, .slice ca n.cells.length cc, .slice ka n.kids.length kc]] w fun e w' => e = .returned (.bool true) ∧ Below w.heap.size w w' :=
  nwrites_leaf n.leaf n rfl ca ka cc kc w hz hc hk hn
end Go.Proofs.Ytdpjmijdlheajaa
