/-
  Layer 16, the program's Read (annexe/node): the node of a page, or that there is none; it changes nothing that was there. Condition: at most 100000 bytes.
-/
import Derived.Test.YtdpjmijdlheajaaNpRead4
namespace Go.Proofs.Ytdpjmijdlheajaa
open Go.RowKit

theorem nresults_pair {P : Program} {fn : Func} {p u : Tmp} {ty : TypeId} (h : fn.results = #[.cell p ty, .tmp u]) (tmps : Array Value) (w : World) (g : Nat) (t : TypeId) (cs : Array Value) (d : TypeDesc)
    (hp : tmps.getD p undef = .pointer (some ⟨g, 0, none⟩)) (hg : Blk w g t cs)
    (hu : P.underlying ty = some d) (hd : (match d with | .struct _ | .array _ _ => true | _ => false) = true) (hi : (P.info? ty).map (·.size) = some cs.size) :
    (results fn tmps).run P w = .ok (.tuple #[.agg cs, tmps.getD u undef]) w := by
  have hp' : tmps[p]?.getD undef = .pointer (some ⟨g, 0, none⟩) := by simpa using hp
  have hl := run_loadVar_row (P := P) w g t ty cs (0, 0) d hg hu hd hi
  simp [results, h, hp', asAddr, hl]
theorem dec_sz {s : List UInt8} (hs : s.length ≤ 100000) : NdSz (decN s) := by
  have hc := cnt_le (s.drop 1)
  unfold decN
  have h2 : ((s.drop 1).drop 2).length ≤ 100000 := by rw [List.length_drop, List.length_drop]; omega
  split
  · have h1 := cels_le true (cntN (s.drop 1)) ((s.drop 1).drop 2)
    have h3 := celsD_sz true (cntN (s.drop 1)) ((s.drop 1).drop 2) 100000 h2
    exact ⟨by simp only; omega, by simp, fun k h => Nat.le_trans (h3 _ (List.getElem_mem h)).1 (by decide), fun k h => Nat.le_trans (h3 _ (List.getElem_mem h)).2 (by decide)⟩
  · have h0 := pages_le (cntN (s.drop 1) + 1) ((s.drop 1).drop 2)
    have hr := pages_rest (cntN (s.drop 1) + 1) ((s.drop 1).drop 2)
    have h1 := cels_le false (cntN (s.drop 1)) (pagesD (cntN (s.drop 1) + 1) ((s.drop 1).drop 2)).2
    have h3 := celsD_sz false (cntN (s.drop 1)) (pagesD (cntN (s.drop 1) + 1) ((s.drop 1).drop 2)).2 100000 (by omega)
    exact ⟨by simp only; omega, by simp only; omega, fun k h => Nat.le_trans (h3 _ (List.getElem_mem h)).1 (by decide), fun k h => Nat.le_trans (h3 _ (List.getElem_mem h)).2 (by decide)⟩
def ndV (n : Nod) (ca ka : Option Addr) (cc kc : Nat) : Value := .agg #[.bool n.leaf, .slice ca n.cells.length cc, .slice ka n.kids.length kc]
/-- What Read returns. -/
def RdQ (o : Option Nod) (w : World) (e : Ending) (W : World) : Prop := match o with
  | none => e = .returned (.tuple #[.agg #[.bool false, .slice none 0 0, .slice none 0 0], .int .i64 32]) ∧ Below w.heap.size w W
  | some n => ∃ ca cc ka kc, e = .returned (.tuple #[ndV n ca ka cc kc, .int .i64 0]) ∧ ((ca = none → cc = 0) ∧ (ka = none → kc = 0)) ∧ Cls W ca n.cells ∧ Kds W ka n.kids ∧ Below w.heap.size w W
theorem set3 {B : Nat} {w W : World} {g : Nat} (h : Below B w W) (hg : B ≤ g) (a b c : Value) : Below B w (((W.setCell ⟨g, 0, none⟩ a).setCell ⟨g, 1, none⟩ b).setCell ⟨g, 2, none⟩ c) :=
  ((h.setCell hg _).setCell hg _).setCell hg _
/-- A block that holds neither a text nor a number. -/
def NoSI (cs : Array Value) : Prop := ∀ (i : Nat) (v : Value), cs[i]? = some v → (∀ s, v ≠ Value.string s) ∧ ∀ k n, v ≠ Value.int k n
theorem nosi (x : Bool) (a b : Option Addr) (n m c d : Nat) : NoSI #[.bool x, .slice a n c, .slice b m d] := by
  intro i v h
  match i, h with
  | 0, h => simp at h; subst h; exact ⟨(fun _ e => nomatch e), (fun _ _ e => nomatch e)⟩
  | 1, h => simp at h; subst h; exact ⟨(fun _ e => nomatch e), (fun _ _ e => nomatch e)⟩
  | 2, h => simp at h; subst h; exact ⟨(fun _ e => nomatch e), (fun _ _ e => nomatch e)⟩
  | i + 3, h => simp at h
theorem cell_of_blk {W : World} {g i : Nat} {t : TypeId} {cs : Array Value} {v : Value} (h : Blk W g t cs) (hv : W.cell? ⟨g, i, none⟩ = some v) : cs[i]? = some v := by
  unfold Blk at h
  simpa [World.cell?, h] using hv
theorem cls_far {W : World} {a : Option Addr} {l : List Cel} {g : Nat} {t : TypeId} {cs : Array Value} (h : Cls W a l) (hg : Blk W g t cs) (hn : NoSI cs) (i : Nat) (v : Value) : Cls (W.setCell ⟨g, i, none⟩ v) a l := by
  intro j hj
  obtain ⟨b, off, e, hlt, h1, h2, h3, h4⟩ := h j hj
  have hne : b ≠ g := fun hb => by
    subst hb
    exact (hn _ _ (cell_of_blk hg h1)).1 _ rfl
  have hb := Below.heap_setCell W ⟨g, i, none⟩ v b hne
  exact ⟨b, off, e, by rw [Deep.nblk_setCell]; exact hlt, (World.cell?_of_block hb).trans h1, (World.cell?_of_block hb).trans h2, (World.cell?_of_block hb).trans h3, (World.cell?_of_block hb).trans h4⟩
theorem kds_far {W : World} {a : Option Addr} {l : List Int} {g : Nat} {t : TypeId} {cs : Array Value} (h : Kds W a l) (hg : Blk W g t cs) (hn : NoSI cs) (i : Nat) (v : Value) : Kds (W.setCell ⟨g, i, none⟩ v) a l := by
  intro j hj
  obtain ⟨b, off, e, hlt, h1⟩ := h j hj
  have hne : b ≠ g := fun hb => by
    subst hb
    exact (hn _ _ (cell_of_blk hg h1)).2 _ _ rfl
  have hb := Below.heap_setCell W ⟨g, i, none⟩ v b hne
  exact ⟨b, off, e, by rw [Deep.nblk_setCell]; exact hlt, (World.cell?_of_block hb).trans h1⟩
/-- A node stored into a result's block. -/
theorem node_put {W : World} {n : Nod} {ca ka : Option Addr} {cc kc g : Nat} {t : TypeId} (hg : Blk W g t #[.bool false, .slice none 0 0, .slice none 0 0]) (hc : Cls W ca n.cells) (hk : Kds W ka n.kids) :
    ∃ W2, W2 = ((W.setCell ⟨g, 0, none⟩ (.bool n.leaf)).setCell ⟨g, 1, none⟩ (.slice ca n.cells.length cc)).setCell ⟨g, 2, none⟩ (.slice ka n.kids.length kc) ∧
      Blk W2 g t #[.bool n.leaf, .slice ca n.cells.length cc, .slice ka n.kids.length kc] ∧ Cls W2 ca n.cells ∧ Kds W2 ka n.kids := by
  have b1 := blk_set hg 0 (.bool n.leaf)
  have b2 := blk_set b1 1 (.slice ca n.cells.length cc)
  have b3 := blk_set b2 2 (.slice ka n.kids.length kc)
  refine ⟨_, rfl, b3, ?_, ?_⟩
  · exact cls_far (cls_far (cls_far hc hg (nosi _ _ _ _ _ _ _) _ _) b1 (nosi _ _ _ _ _ _ _) _ _) b2 (nosi _ _ _ _ _ _ _) _ _
  · exact kds_far (kds_far (kds_far hk hg (nosi _ _ _ _ _ _ _) _ _) b1 (nosi _ _ _ _ _ _ _) _ _) b2 (nosi _ _ _ _ _ _ _) _ _
theorem nb_eq (a b : List UInt8) : ((nb a).toList == (nb b).toList) = decide (a = b) := by
  rw [nb_toList, nb_toList]
  by_cases h : a = b
  · subst h; simp
  · rw [decide_eq_false h]; simpa using h
set_option maxRecDepth 100000 in
set_option maxHeartbeats 4000000 in
theorem read_any (s : List UInt8) (w : World) (hs : s.length ≤ 100000) :
    Calls Try.prog 13 #[.string (nb s)] w (RdQ (rdN s) w) := by
  rw [rd_dec]
  have kd := decode_any s (w.alloc (.cells #[.bool false, .slice none 0 0, .slice none 0 0] 32)) hs
  have hz := dec_sz hs
  obtain ⟨J, hJ⟩ : ∃ J, J = decN s := ⟨_, rfl⟩
  rw [← hJ] at kd hz
  rw [← hJ]
  have HZ := Lib.hid hz
  clear hJ hz
  obtain ⟨p, er, hpe⟩ : ∃ p er, wriN J = (p, er) := ⟨_, _, rfl⟩
  have HPE := Lib.hid hpe
  have HW := Lib.hid (fun W ca cc ka kc (hc : Cls W ca J.cells) (hk : Kds W ka J.kids) => (show Calls Try.prog 8 #[.agg #[.bool J.leaf, .slice ca J.cells.length cc, .slice ka J.kids.length kc]] W fun e w' => e = .returned (.tuple #[.string (nb p), .int .i64 er]) ∧ Below W.heap.size W w' from by
    have h := write_nd J ca ka cc kc W HZ.out hc hk
    rw [HPE.out] at h
    exact h))
  have HB0 := Lib.hid (blw1 w (.cells #[.bool false, .slice none 0 0, .slice none 0 0] 32))
  have HR0 := Lib.hid (blk_new w 32 #[.bool false, .slice none 0 0, .slice none 0 0])
  have go_on : ∀ z : Bool, (z = true ↔ ¬ (er = 0 ∧ p = s)) → True := fun _ _ => trivial
  by_cases hgood : er = 0 ∧ p = s
  · obtain ⟨rfl, rfl⟩ := hgood
    rw [if_pos hpe]
    clear go_on hpe HPE
    unfold RdQ ndV
    simp only
    go_enter Try.func13, Try.ntmps13
    go_upto_region 2 with (go_at_call 26; (with_reducible refine kd.mono ?_); rintro e w2 ⟨ca, cc, ka, kc, rfl, hn, hc, hk, hb⟩; have HN := Lib.hid hn; have HC := Lib.hid hc; have HK := Lib.hid hk; have HB := Lib.hid hb; clear hn hc hk hb)
    obtain ⟨W3, hW3⟩ : ∃ W, W = w2.alloc (.cells #[.bool J.leaf, .slice ca J.cells.length cc, .slice ka J.kids.length kc] 32) := ⟨_, rfl⟩
    obtain ⟨g4, hg4⟩ : ∃ g, g = w2.heap.size := ⟨_, rfl⟩
    have HX := Lib.hid (show Blk W3 g4 32 #[.bool J.leaf, .slice ca J.cells.length cc, .slice ka J.kids.length kc] from by rw [hW3, hg4]; exact blk_new _ _ _)
    have HB3 := Lib.hid (show Below w2.heap.size w2 W3 from by rw [hW3]; exact blw1 _ _)
    have HC3 := Lib.hid (cls_next HC.out HB3.out)
    have HK3 := Lib.hid (kds_next HK.out HB3.out)
    rw [← hW3, ← hg4]
    clear hW3 hg4
    have HKW := Lib.hid (HW.out W3 ca cc ka kc HC3.out HK3.out)
    have hkw := HKW.out
    have j0 := blk_cell HX.out 0 rfl; have j1 := blk_cell HX.out 1 rfl; have j2 := blk_cell HX.out 2 rfl
    obtain ⟨bl, hbl⟩ : ∃ b, b = J.leaf := ⟨_, rfl⟩
    obtain ⟨nc, hnc⟩ : ∃ b, b = J.cells.length := ⟨_, rfl⟩
    obtain ⟨nk, hnk⟩ : ∃ b, b = J.kids.length := ⟨_, rfl⟩
    have HBL := Lib.hid hbl; have HNC := Lib.hid hnc; have HNK := Lib.hid hnk
    rw [← hbl, ← hnc, ← hnk]
    rw [← hbl, ← hnc, ← hnk] at hkw HX
    rw [← hbl] at j0
    rw [← hnc] at j1
    rw [← hnk] at j2
    clear hbl hnc hnk kd
    obtain ⟨S, hS⟩ : ∃ S, S = nb p := ⟨_, rfl⟩
    rw [← hS] at hkw
    rw [← hS]
    clear hS
    go_upto_region 3 with (go_at_call 8; (with_reducible refine hkw.mono ?_); rintro e w5 ⟨rfl, hb5⟩; have HB5 := Lib.hid hb5; clear hb5)
    have HX5 := Lib.hid (blk_below HX.out HB5.out)
    have HR5 := Lib.hid (blk_below (blk_below (blk_below HR0.out HB.out) HB3.out) HB5.out)
    have HC5 := Lib.hid (cls_next HC3.out HB5.out)
    have HK5 := Lib.hid (kds_next HK3.out HB5.out)
    have HBA := Lib.hid (HB0.out.trans ((HB.out.trans ((HB3.out.mono HB.out.size).trans (HB5.out.mono (Nat.le_trans HB.out.size HB3.out.size)))).mono HB0.out.size))
    clear j0 j1 j2 hkw HKW
    have j0 := blk_cell HX5.out 0 rfl; have j1 := blk_cell HX5.out 1 rfl; have j2 := blk_cell HX5.out 2 rfl
    have z0 := blk_cell HR5.out 0 rfl; have z1 := blk_cell HR5.out 1 rfl; have z2 := blk_cell HR5.out 2 rfl
    have y0 := blk_frozen HR5.out 0; have y1 := blk_frozen HR5.out 1; have y2 := blk_frozen HR5.out 2
    go_wp2
    obtain ⟨W2, hW2, q1, q2, q3⟩ := node_put (n := J) (cc := cc) (kc := kc) HR5.out HC5.out HK5.out
    rw [← HBL.out, ← HNC.out, ← HNK.out] at hW2 q1
    rw [← hW2]
    refine bodyPost_ret (nresults_pair rfl _ _ w.heap.size _ _ _ rfl q1 Try.underlying32 rfl (by kernel_rfl)) rfl ?_
    refine ⟨ca, cc, ka, kc, by rw [← HBL.out, ← HNC.out, ← HNK.out]; rfl, HN.out, q2, q3, ?_⟩
    rw [hW2]
    exact set3 HBA.out (Nat.le_refl _) _ _ _
  · rw [if_neg (fun h => hgood (by rw [hpe] at h; have := Prod.ext_iff.1 h; exact ⟨this.2, this.1⟩))]
    clear go_on hpe HPE
    unfold RdQ
    simp only
    have hq := nb_eq p s
    have HG := Lib.hid hgood
    clear hgood
    obtain ⟨S, hS⟩ : ∃ S, S = nb p := ⟨_, rfl⟩
    obtain ⟨T, hT⟩ : ∃ T, T = nb s := ⟨_, rfl⟩
    rw [← hS, ← hT] at hq
    rw [← hT] at kd
    rw [← hS] at HW
    rw [← hT]
    clear hS hT
    go_enter Try.func13, Try.ntmps13
    go_upto_region 2 with (go_at_call 26; (with_reducible refine kd.mono ?_); rintro e w2 ⟨ca, cc, ka, kc, rfl, hn, hc, hk, hb⟩; have HC := Lib.hid hc; have HK := Lib.hid hk; have HB := Lib.hid hb; clear hn hc hk hb)
    obtain ⟨W3, hW3⟩ : ∃ W, W = w2.alloc (.cells #[.bool J.leaf, .slice ca J.cells.length cc, .slice ka J.kids.length kc] 32) := ⟨_, rfl⟩
    obtain ⟨g4, hg4⟩ : ∃ g, g = w2.heap.size := ⟨_, rfl⟩
    have HX := Lib.hid (show Blk W3 g4 32 #[.bool J.leaf, .slice ca J.cells.length cc, .slice ka J.kids.length kc] from by rw [hW3, hg4]; exact blk_new _ _ _)
    have HB3 := Lib.hid (show Below w2.heap.size w2 W3 from by rw [hW3]; exact blw1 _ _)
    have HC3 := Lib.hid (cls_next HC.out HB3.out)
    have HK3 := Lib.hid (kds_next HK.out HB3.out)
    rw [← hW3, ← hg4]
    clear hW3 hg4
    have hkw := HW.out W3 ca cc ka kc HC3.out HK3.out
    have j0 := blk_cell HX.out 0 rfl; have j1 := blk_cell HX.out 1 rfl; have j2 := blk_cell HX.out 2 rfl
    generalize J.leaf = bl at *
    generalize J.cells.length = nc at *
    generalize J.kids.length = nk at *
    clear kd HW HC HK HC3 HK3 HZ
    have hfin : ∀ w5, Below W3.heap.size W3 w5 → Blk w5 w.heap.size 32 #[.bool false, .slice none 0 0, .slice none 0 0] ∧ Below w.heap.size w w5 := fun w5 h5 =>
      ⟨blk_below (blk_below (blk_below HR0.out HB.out) HB3.out) h5, HB0.out.trans ((HB.out.trans ((HB3.out.mono HB.out.size).trans (h5.mono (Nat.le_trans HB.out.size HB3.out.size)))).mono HB0.out.size)⟩
    have HF := Lib.hid hfin
    clear hfin
    by_cases her : er = 0
    · subst her
      have hps : ¬ p = s := fun h => HG.out ⟨rfl, h⟩
      rw [decide_eq_false hps] at hq
      have hq' : ¬ S.toList = T.toList := by simpa using hq
      clear hps
      go_upto_region 4 with (go_at_call 8; (with_reducible refine hkw.mono ?_); rintro e w5 ⟨rfl, hb5⟩; have HB5 := Lib.hid hb5; clear hb5)
      obtain ⟨hr5, hb5⟩ := HF.out _ HB5.out
      have z0 := blk_cell hr5 0 rfl; have z1 := blk_cell hr5 1 rfl; have z2 := blk_cell hr5 2 rfl
      have y0 := blk_frozen hr5 0; have y1 := blk_frozen hr5 1; have y2 := blk_frozen hr5 2
      have HR5 := Lib.hid hr5; have HBA := Lib.hid hb5
      clear hr5 hb5
      go_wp2
      refine bodyPost_ret (nresults_pair rfl _ _ w.heap.size _ _ _ rfl (blk_set (blk_set (blk_set HR5.out 0 _) 1 _) 2 _) Try.underlying32 rfl (by kernel_rfl)) rfl ?_
      exact ⟨rfl, set3 HBA.out (Nat.le_refl _) _ _ _⟩
    · have t1 : (er != 0) = true := by simpa using her
      clear her hq
      go_upto_region 4 with (go_at_call 8; (with_reducible refine hkw.mono ?_); rintro e w5 ⟨rfl, hb5⟩; have HB5 := Lib.hid hb5; clear hb5)
      obtain ⟨hr5, hb5⟩ := HF.out _ HB5.out
      have z0 := blk_cell hr5 0 rfl; have z1 := blk_cell hr5 1 rfl; have z2 := blk_cell hr5 2 rfl
      have y0 := blk_frozen hr5 0; have y1 := blk_frozen hr5 1; have y2 := blk_frozen hr5 2
      have HR5 := Lib.hid hr5; have HBA := Lib.hid hb5
      clear hr5 hb5
      go_wp2
      refine bodyPost_ret (nresults_pair rfl _ _ w.heap.size _ _ _ rfl (blk_set (blk_set (blk_set HR5.out 0 _) 1 _) 2 _) Try.underlying32 rfl (by kernel_rfl)) rfl ?_
      exact ⟨rfl, set3 HBA.out (Nat.le_refl _) _ _ _⟩
end Go.Proofs.Ytdpjmijdlheajaa
