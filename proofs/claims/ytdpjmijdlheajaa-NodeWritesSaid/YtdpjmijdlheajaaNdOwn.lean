/-
  Layer 16, the law's own (annexelaw16): the document's node as the program's, over new memory; it changes nothing that was there. Condition: sizes as the law's great allows.
-/
import Derived.Test.YtdpjmijdlheajaaNdRead
import Derived.Test.YtdpjmijdlheajaaNdGreat
import Derived.Maps.RangeWalk
namespace Go.Proofs.Ytdpjmijdlheajaa
open Go.RowKit

theorem step_append_any {P : Program} (w : World) {ops : Array Oper} {o : Oper} {a : Act} {K : Act → World → Prop} {Q : Exit → Act → World → Prop} {E : Prop} (hgd : o.guard = none) (s x : Operand) (t : TypeId)
    (ho : o.op = .call { callee := .builtin .append, args := #[s, x], argTypes := #[t, t] })
    (base : Nat) (e : TypeId) (i : TypeInfo) (z : Value) (size bytes : Nat) (ht : P.underlying t = some (.slice e)) (hi : P.info? e = some i) (hz : i.zero = some z)
    (hsize : i.size = size) (hby : i.bytes = bytes) (hzs : z.cells.size = size) (hsz : 0 < size)
    (v : Value) (n : Nat) (xs : List Value) (hs : a.eval s = v) (hown : w.ownsRow base e size v n xs)
    (vx : Value) (m : Nat) (news : List Value) (hx : a.eval x = vx) (hxo : SrcL w size vx m news) (h1 : ∀ u ∈ news, u.oneCell' = true)
    (h63 : n + m ≤ maxLen) (hbytes : (n + m) * bytes ≤ 140737488355328) (hbase : base ≤ w.heap.size)
    (h : ∀ v' w', w'.ownsRow base e size v' (n + m) (xs ++ news) → w.grownBy w' v.ownBlock → (v'.ownBlock = v.ownBlock ∨ v'.ownBlock = some w.heap.size) → K (a.put o.dst v') w') :
    if Region.wanted o (yielded ops a.tmps) = true then Oper.wp P o a w K Q else E := by
  have hw : Region.wanted o (yielded ops a.tmps) = true := by simp [Region.wanted, hgd]
  rw [if_pos hw]
  obtain ⟨v', w', hr, h2, h3, h4⟩ := run_append_any (P := P) w base t o.type e i z size bytes ht hi hz hsize hby hzs hsz v n xs hown vx m news hxo h1 h63 hbytes hbase
  unfold Oper.wp execOp
  simp only [ho, resolve, invoke, builtin, Sem.run_bind, Sem.run_pure, Result.andThen_ok, List.map_toArray, List.map_cons, List.map_nil, hs, hx, hr]
  exact h _ _ h2 h3 h4
/-- The program's node in the making: its struct at gx, the result's at gr, its row of cells beyond base, its numbers below. -/
structure OJ (w0 : World) (gx gr base : Nat) (leaf : Bool) (cv : Value) (ka : Option Addr) (kn kc : Nat) (L : List Cel) (K : List Int) (W : World) : Prop where
  hx : Blk W gx 32 #[.bool leaf, cv, .slice ka kn kc]
  hr : Blk W gr 32 #[.bool false, .slice none 0 0, .slice none 0 0]
  cr : W.ownsRow base 51 4 cv L.length (celsC L)
  kd : Kds W ka K
  kl : kn = K.length
  k0 : ka = none → kc = 0
  kb : ∀ b o q, ka = some ⟨b, o, q⟩ → b < base
  lx : gx < base
  lr : gr < base
  nr : gx ≠ gr
  wx : w0.heap.size ≤ gx
  wr : w0.heap.size ≤ gr
  bw : Below w0.heap.size w0 W
  bs : base ≤ W.heap.size
section
variable {w0 W W' : World} {gx gr base : Nat} {leaf : Bool} {cv : Value} {ka : Option Addr} {kn kc : Nat} {L : List Cel} {K : List Int}
theorem OJ.below (h : OJ w0 gx gr base leaf cv ka kn kc L K W) (hb : Below W.heap.size W W') : OJ w0 gx gr base leaf cv ka kn kc L K W' :=
  ⟨blk_below h.hx hb, blk_below h.hr hb, nown_below h.cr hb, kds_next h.kd hb, h.kl, h.k0, h.kb, h.lx, h.lr, h.nr, h.wx, h.wr, h.bw.trans (hb.mono h.bw.size), Nat.le_trans h.bs hb.size⟩
theorem OJ.cells (h : OJ w0 gx gr base leaf cv ka kn kc L K W) {L2 : List Cel} {v : Value} (ho : W'.ownsRow base 51 4 v (L.length + L2.length) (celsC L ++ celsC L2)) (hg : W.grownBy W' cv.ownBlock) :
    OJ w0 gx gr base leaf v ka kn kc (L ++ L2) K (W'.setCell ⟨gx, 1, none⟩ v) := by
  have hx' := blk_grownBy h.hx hg (row_far (W' := W) h.cr h.lx)
  have hr' := blk_grownBy h.hr hg (row_far (W' := W) h.cr h.lr)
  have kd' : Kds W' ka K := by
    intro j hj
    obtain ⟨b, off, e, hlt, h1⟩ := h.kd j hj
    have hb := hg.block b hlt (fun e2 => by
      have := (h.cr.lt b e2.symm).1
      have := h.kb b off none e
      omega)
    exact ⟨b, off, e, Nat.lt_of_lt_of_le hlt hg.size, (World.cell?_of_block hb).trans h1⟩
  refine ⟨blk_set hx' 1 v, blk_other hr' (Ne.symm h.nr) 1 v, ?_, ?_, h.kl, h.k0, h.kb, h.lx, h.lr, h.nr, h.wx, h.wr, ?_, ?_⟩
  · rw [List.length_append, cels_app]
    exact ownsRow_setCell_below ho h.lx v
  · intro j hj
    obtain ⟨b, off, e, hlt, h1⟩ := kd' j hj
    have hne : b ≠ gx := fun hb => by
      subst hb
      have h2 := cell_of_blk hx' h1
      obtain ⟨a9, c9, rfl, -⟩ := cls_row h.cr
      exact ((nosi leaf a9 ka L.length kn c9 kc) _ _ h2).2 _ _ rfl
    have hb := Below.heap_setCell W' ⟨gx, 1, none⟩ v b hne
    exact ⟨b, off, e, by rw [Deep.nblk_setCell]; exact hlt, (World.cell?_of_block hb).trans h1⟩
  · exact (h.bw.grown hg h.bw.size fun k e => by have := (h.cr.lt k e).1; have := h.wx; have := h.lx; omega).setCell h.wx v
  · rw [Deep.nblk_setCell]; exact Nat.le_trans h.bs hg.size
theorem oj_cv (h : OJ w0 gx gr base leaf cv ka kn kc L K W) : ∃ a c, cv = .slice a L.length c ∧ (a = none → c = 0) ∧ Cls W a L := cls_row h.cr
theorem oj_cv3 (h : OJ w0 gx gr base leaf cv ka kn kc L K W) : ∃ a m c, cv = .slice a m c := by
  obtain ⟨a, c, e, -⟩ := cls_row h.cr
  exact ⟨a, _, c, e⟩
/-- What is made. -/
theorem OJ.done (h : OJ w0 gx gr base leaf cv ka kn kc L K W) : ∃ W2, W2 = ((W.setCell ⟨gr, 0, none⟩ (.bool leaf)).setCell ⟨gr, 1, none⟩ cv).setCell ⟨gr, 2, none⟩ (.slice ka kn kc) ∧ Blk W2 gr 32 #[.bool leaf, cv, .slice ka kn kc] ∧ NodQ ⟨leaf, L, K⟩ w0 (.returned (.agg #[.bool leaf, cv, .slice ka kn kc])) W2 := by
  obtain ⟨a, c, rfl, hn, hC⟩ := cls_row h.cr
  have hk := h.kl
  subst hk
  obtain ⟨W2, hW2, q1, q2, q3⟩ := node_put (n := ⟨leaf, L, K⟩) (cc := c) (kc := kc) h.hr hC h.kd
  refine ⟨W2, hW2, q1, a, c, ka, kc, rfl, ⟨hn, h.k0⟩, q2, q3, ?_⟩
  rw [hW2]
  exact set3 h.bw h.wr _ _ _
end
/-- It begins. -/
theorem oj_start {w0 W : World} {gx gr : Nat} {leaf : Bool} {ka : Option Addr} {kn kc : Nat} {K : List Int} (hx : Blk W gx 32 #[.bool leaf, .slice none 0 0, .slice ka kn kc]) (hr : Blk W gr 32 #[.bool false, .slice none 0 0, .slice none 0 0]) (kd : Kds W ka K) (kl : kn = K.length) (k0 : ka = none → kc = 0) (kb : ∀ b o q, ka = some ⟨b, o, q⟩ → b < W.heap.size) (nr : gx ≠ gr) (wx : w0.heap.size ≤ gx) (wr : w0.heap.size ≤ gr) (bw : Below w0.heap.size w0 W) :
    OJ w0 gx gr W.heap.size leaf (.slice none 0 0) ka kn kc [] K W :=
  ⟨hx, hr, World.ownsRow_nil _ _ _ _, kd, kl, k0, kb, blk_lt hx, blk_lt hr, nr, wx, wr, bw, Nat.le_refl _⟩
theorem own_fin {w0 wa W : World} {gx g2 : Nat} {leaf : Bool} {ka : Option Addr} {kc : Nat} {K : List Int} (hx : Blk W gx 32 #[.bool false, .slice none 0 0, .slice none 0 0]) (hr : Blk W g2 32 #[.bool false, .slice none 0 0, .slice none 0 0]) (kd : Kds W ka K) (k0 : ka = none → kc = 0) (kb : ∀ b o q, ka = some ⟨b, o, q⟩ → b < W.heap.size) (nr : gx ≠ g2) (wx : w0.heap.size ≤ gx) (wr : w0.heap.size ≤ g2) (wg : wa.heap.size ≤ gx) (ha : Below wa.heap.size wa W) (hw : Below w0.heap.size w0 wa) :
    OJ w0 gx g2 (((W.setCell ⟨gx, 0, none⟩ (.bool leaf)).setCell ⟨gx, 1, none⟩ (.slice none 0 0)).setCell ⟨gx, 2, none⟩ (.slice ka K.length kc)).heap.size leaf (.slice none 0 0) ka K.length kc [] K (((W.setCell ⟨gx, 0, none⟩ (.bool leaf)).setCell ⟨gx, 1, none⟩ (.slice none 0 0)).setCell ⟨gx, 2, none⟩ (.slice ka K.length kc)) ∧ Below wa.heap.size wa (((W.setCell ⟨gx, 0, none⟩ (.bool leaf)).setCell ⟨gx, 1, none⟩ (.slice none 0 0)).setCell ⟨gx, 2, none⟩ (.slice ka K.length kc)) := by
  have b1 := blk_set hx 0 (.bool leaf)
  have b2 := blk_set b1 1 (.slice none 0 0)
  have b3 := blk_set b2 2 (.slice ka K.length kc)
  have hb := set3 ha wg (.bool leaf) (.slice none 0 0) (.slice ka K.length kc)
  refine ⟨oj_start b3 (blk_other (blk_other (blk_other hr (Ne.symm nr) _ _) (Ne.symm nr) _ _) (Ne.symm nr) _ _) (kds_far (kds_far (kds_far kd hx (nosi _ _ _ _ _ _ _) _ _) b1 (nosi _ _ _ _ _ _ _) _ _) b2 (nosi _ _ _ _ _ _ _) _ _) rfl k0 (fun b o q e => ?_) nr wx wr (hw.trans (hb.mono hw.size)), hb⟩
  have := kb b o q e
  simpa [Deep.nblk_setCell] using this
theorem kds_row' {W : World} {base : Nat} {e : TypeId} {v : Value} {L : List Int} (h : W.ownsRow base e 1 v L.length (kidsC L)) : ∃ a cap, v = .slice a L.length cap ∧ (a = none → cap = 0) ∧ Kds W a L ∧ ∀ b o q, a = some ⟨b, o, q⟩ → b < W.heap.size := by
  rcases h.2 with ⟨rfl, hl⟩ | ⟨g, cap, cur, rfl, hbg, hg, -⟩
  · exact ⟨none, 0, by rw [hl], fun _ => rfl, fun j hj => absurd hj (by omega), (fun _ _ _ e => nomatch e)⟩
  · refine ⟨_, cap, rfl, (fun e => nomatch e), fun j hj => ?_, fun b o q e => ?_⟩
    · have hc := h.cells (g := g) rfl j (.int .i64 L[j]) (by unfold kidsC; rw [List.getElem?_map, List.getElem?_eq_getElem hj]; rfl)
      rw [nadd_plain] at hc
      exact ⟨g, 0, rfl, (h.lt g rfl).2, hc⟩
    · have := Option.some.inj e
      injection this with e1
      rw [← e1]
      exact (h.lt g rfl).2
set_option maxRecDepth 100000 in
set_option maxHeartbeats 4000000 in
theorem own_leaf (leaf : Bool) (n : Nod) (hlf : leaf = n.leaf) (ca ka : Option Addr) (cc kc : Nat) (w : World) (hz : FineN n) (hc : Cls w ca n.cells) (hk : Kds w ka n.kids) (hn : ka = none → kc = 0) :
    Calls Try.prog 9 #[.agg #[.bool leaf, .slice ca n.cells.length cc, .slice ka n.kids.length kc]] w (NodQ n w) := by
  obtain ⟨i1, hi1, hz1, hs1, hb1⟩ := info_three ninfoCell
  obtain ⟨i2, hi2, hz2, hs2, hb2⟩ := info_three ninfoInt
  have HFN := Lib.hid hz
  have hb := blk_alloc (blk_new w 25 #[.bool leaf, .slice ca n.cells.length cc, .slice ka n.kids.length kc]) (.cells #[.bool false, .slice none 0 0, .slice none 0 0] 32)
  have hr := blk_at (w := w.alloc (.cells #[.bool leaf, .slice ca n.cells.length cc, .slice ka n.kids.length kc] 25)) (t := 32) (cs := #[.bool false, .slice none 0 0, .slice none 0 0]) (g := w.heap.size + 1) (by simp)
  have hw := blw2 w (.cells #[.bool leaf, .slice ca n.cells.length cc, .slice ka n.kids.length kc] 25) (.cells #[.bool false, .slice none 0 0, .slice none 0 0] 32)
  obtain ⟨wa, hwa⟩ : ∃ W, W = (w.alloc (.cells #[.bool leaf, .slice ca n.cells.length cc, .slice ka n.kids.length kc] 25)).alloc (.cells #[.bool false, .slice none 0 0, .slice none 0 0] 32) := ⟨_, rfl⟩
  rw [← hwa] at hb hr hw
  obtain ⟨len, hlen⟩ : ∃ b, b = n.cells.length := ⟨_, rfl⟩
  obtain ⟨kn, hkn⟩ : ∃ b, b = n.kids.length := ⟨_, rfl⟩
  rw [← hlen, ← hkn] at hwa hb
  rw [← hlen, ← hkn]
  have HC1 := Lib.hid (cls_next hc hw)
  have HKS := Lib.hid (fun W (h : Below wa.heap.size wa W) => show SrcL W 1 (.slice ka kn kc) n.kids.length (kidsC n.kids) from by rw [hkn]; exact src_kds (kds_next (kds_next hk hw) h) hn)
  obtain ⟨g1, hg1⟩ : ∃ g, g = w.heap.size := ⟨_, rfl⟩
  obtain ⟨g2, hg2⟩ : ∃ g, g = w.heap.size + 1 := ⟨_, rfl⟩
  rw [← hg1] at hb
  rw [← hg2] at hr
  have HBX := Lib.hid (fun W (h : Below wa.heap.size wa W) => blk_below hb h)
  have HRX := Lib.hid (fun W (h : Below wa.heap.size wa W) => blk_below hr h)
  have HG := Lib.hid (fun W (h : Below wa.heap.size wa W) => show (W.cell? ⟨g1, 0, none⟩ = some (.bool leaf) ∧ W.cell? ⟨g1, 2, none⟩ = some (.slice ka kn kc)) ∧ Below wa.heap.size wa W from ⟨⟨blk_cell (HBX.out W h) 0 rfl, blk_cell (HBX.out W h) 2 rfl⟩, h⟩)
  have HW := Lib.hid hw; have HLF := Lib.hid hlf; have HL := Lib.hid hlen; have HK := Lib.hid hkn
  have HG2 := Lib.hid hg2; have HWA := Lib.hid hwa; have HG1 := Lib.hid hg1
  have HLT := Lib.hid (show g2 < wa.heap.size from blk_lt hr)
  clear hc hk hn hw hlf hlen hkn hb hr hz hg1 hg2 hwa
  go_enter Try.func9, Try.ntmps9
  go_upto_region 1 with (fail)
  rw [← HWA.out, ← HG2.out, ← HG1.out]
  go_cut [3] from 4 (fun s3 wx => ∃ (gx base : Nat) (ka' : Option Addr) (kc' : Nat), s3 = .pointer (some ⟨gx, 0, none⟩) ∧ Hid (OJ w gx g2 base leaf (.slice none 0 0) ka' n.kids.length kc' [] n.kids wx) ∧ Hid (Below wa.heap.size wa wx) ∧ wa.heap.size ≤ gx)
  case first =>
    refine wp_region_held_drew (S := fun v => (v.cell? ⟨g1, 0, none⟩ = some (.bool leaf) ∧ v.cell? ⟨g1, 2, none⟩ = some (.slice ka kn kc)) ∧ Below wa.heap.size wa v) (by kernel_rfl) (HG.out _ (Below.refl _ _).drew) (fun hHeld => ?_)
    obtain ⟨wd, hwd⟩ : ∃ W, W = wa.drew := ⟨_, rfl⟩
    rw [← hwd] at hHeld ⊢
    have HBD := Lib.hid (show Below wa.heap.size wa wd from by rw [hwd]; exact (Below.refl _ _).drew)
    clear hwd
    refine wpAnyH_take (i := 0) (v := .pointer (some ⟨g1, 0, none⟩)) rfl (by kernel_rfl) (by kernel_rfl) (by kernel_rfl) (fun _ _ _ h => h) (Or.inl ⟨by rfl, ?_⟩) hHeld ?_
    · intro w' hSw
      obtain ⟨⟨a0, a1⟩, a2⟩ := hSw
      go_simp
    go_frame
    refine wpAnyH_take (i := 1) (v := .bool leaf) rfl (by kernel_rfl) (by kernel_rfl) (by kernel_rfl) (fun _ _ _ h => h) (Or.inl ⟨by rfl, ?_⟩) hHeld ?_
    · intro w' hSw
      obtain ⟨⟨a0, a1⟩, a2⟩ := hSw
      go_simp
    go_frame
    refine wpAnyH_take (i := 3) (v := .pointer (some ⟨g1, 2, none⟩)) rfl (by kernel_rfl) (by kernel_rfl) (by kernel_rfl) (fun _ _ _ h => h) (Or.inl ⟨by rfl, ?_⟩) hHeld ?_
    · intro w' hSw
      obtain ⟨⟨a0, a1⟩, a2⟩ := hSw
      go_simp
    go_frame
    refine wpAnyH_take (i := 4) (v := .slice ka kn kc) rfl (by kernel_rfl) (by kernel_rfl) (by kernel_rfl) (fun _ _ _ h => h) (Or.inl ⟨by rfl, ?_⟩) hHeld ?_
    · intro w' hSw
      obtain ⟨⟨a0, a1⟩, a2⟩ := hSw
      go_simp
    go_frame
--ORD
    refine wpAnyH_ready (rs := [2, 7]) (by kernel_rfl) (by simp) ?_
    refine AllReadyH.cons rfl (fun K hK => ?_) (AllReadyH.cons rfl (fun K hK => ?_) AllReadyH.nil)
    · skip
      go_simp
      refine hK.out _ _ (HG.out _ (HBD.out.alloc HBD.out.size (.cells #[] 3))) (fun hHeld => ?_)
      clear hK K
      refine wpAnyH_ready (rs := [5, 7]) (by kernel_rfl) (by simp) ?_
      refine AllReadyH.cons rfl (fun K hK => ?_) (AllReadyH.cons rfl (fun K hK => ?_) AllReadyH.nil)
      · skip
        refine step_append_any _ rfl _ _ 23 rfl wd.heap.size 3 i2 (.int .i64 0) 1 8 Try.underlying23 hi2 hz2 hs2 hb2 rfl (by decide) _ _ _ rfl (row_none wd 3 1) _ n.kids.length (kidsC n.kids) rfl (HKS.out _ (HBD.out.alloc HBD.out.size (.cells #[] 3))) (kids_ones _) (by unfold maxLen; have := HFN.out.2.2; omega) (by have := HFN.out.2.2; omega) (by first | (simp; done) | (simp; omega)) ?_
        intro v5 w5 hown5 hgrow5 _h5
        rw [Nat.zero_add, List.nil_append] at hown5
        obtain ⟨ka5, kc5, hv5, hk05, hkd5, hkb5⟩ := kds_row' hown5
        subst hv5
        have HB5 := Lib.hid (((HBD.out.alloc HBD.out.size (.cells #[] 3))).grown hgrow5 ((HBD.out.alloc HBD.out.size (.cells #[] 3))).size (fun k e => by have e2 := Option.some.inj e; rw [← e2]; first | exact HBD.out.size | (have := HBD.out.size; simp; omega)))
        have HKD5 := Lib.hid hkd5; have HKB5 := Lib.hid hkb5; have HK05 := Lib.hid hk05; have HGR5 := Lib.hid hgrow5
        clear hown5 hgrow5 hkd5 hkb5 hk05 _h5
        go_simp
        refine hK.out _ _ (HG.out _ HB5.out) (fun hHeld => ?_)
        clear hK K
        refine wpAnyH_take (i := 6) (v := (.agg #[.bool leaf, .slice none 0 0, .slice ka5 n.kids.length kc5])) rfl (by kernel_rfl) (by kernel_rfl) (by kernel_rfl) (fun _ _ _ h => h) (Or.inl ⟨by rfl, ?_⟩) hHeld ?_
        · intro w' hSw
          obtain ⟨⟨a0, a1⟩, a2⟩ := hSw
          go_simp
        go_frame
        refine wpAnyH_ready (rs := [7]) (by kernel_rfl) (by simp) ?_
        refine AllReadyH.cons rfl (fun K hK => ?_) AllReadyH.nil
        go_simp
        refine hK.out _ _ (HG.out _ (HB5.out.alloc HB5.out.size (.cells #[.bool false, .slice none 0 0, .slice none 0 0] 32))) (fun hHeld => ?_)
        clear hK K
        refine wpAnyH_ready (rs := [8]) (by kernel_rfl) (by simp) ?_
        refine AllReadyH.cons rfl (fun K hK => ?_) AllReadyH.nil
        go_simp
        refine hK.out _ _ (HG.out _ (HB5.out.alloc HB5.out.size (.cells #[.bool leaf, .slice none 0 0, .slice ka5 n.kids.length kc5] 32))) (fun hHeld => ?_)
        clear hK K
        refine wpAnyH_done (by kernel_rfl) ?_ _
        go_wp2
        go_meet
        exact ⟨w5.heap.size, _, ka5, kc5, rfl, Lib.hid (oj_start (blk_new _ _ _) (HRX.out _ (HB5.out.alloc HB5.out.size (.cells #[.bool leaf, .slice none 0 0, .slice ka5 n.kids.length kc5] 32))) (kds_alloc HKD5.out _) rfl HK05.out (fun b o q e => by have := HKB5.out b o q e; simp; omega) (by have := HLT.out; have := HB5.out.size; omega) (by have := HW.out.size; have := HB5.out.size; omega) (by rw [HG2.out]; omega) (HW.out.trans ((HB5.out.alloc HB5.out.size (.cells #[.bool leaf, .slice none 0 0, .slice ka5 n.kids.length kc5] 32)).mono HW.out.size))), Lib.hid (HB5.out.alloc HB5.out.size (.cells #[.bool leaf, .slice none 0 0, .slice ka5 n.kids.length kc5] 32)), HB5.out.size⟩
      · skip
        go_simp
        refine hK.out _ _ (HG.out _ ((HBD.out.alloc HBD.out.size (.cells #[] 3)).alloc (HBD.out.alloc HBD.out.size (.cells #[] 3)).size (.cells #[.bool false, .slice none 0 0, .slice none 0 0] 32))) (fun hHeld => ?_)
        clear hK K
        refine wpAnyH_ready (rs := [5]) (by kernel_rfl) (by simp) ?_
        refine AllReadyH.cons rfl (fun K hK => ?_) AllReadyH.nil
        refine step_append_any _ rfl _ _ 23 rfl wd.heap.size 3 i2 (.int .i64 0) 1 8 Try.underlying23 hi2 hz2 hs2 hb2 rfl (by decide) _ _ _ rfl (nown_below (row_none wd 3 1) (blw1 _ _)) _ n.kids.length (kidsC n.kids) rfl (HKS.out _ ((HBD.out.alloc HBD.out.size (.cells #[] 3)).alloc (HBD.out.alloc HBD.out.size (.cells #[] 3)).size (.cells #[.bool false, .slice none 0 0, .slice none 0 0] 32))) (kids_ones _) (by unfold maxLen; have := HFN.out.2.2; omega) (by have := HFN.out.2.2; omega) (by first | (simp; done) | (simp; omega)) ?_
        intro v5 w5 hown5 hgrow5 _h5
        rw [Nat.zero_add, List.nil_append] at hown5
        obtain ⟨ka5, kc5, hv5, hk05, hkd5, hkb5⟩ := kds_row' hown5
        subst hv5
        have HB5 := Lib.hid ((((HBD.out.alloc HBD.out.size (.cells #[] 3)).alloc (HBD.out.alloc HBD.out.size (.cells #[] 3)).size (.cells #[.bool false, .slice none 0 0, .slice none 0 0] 32))).grown hgrow5 (((HBD.out.alloc HBD.out.size (.cells #[] 3)).alloc (HBD.out.alloc HBD.out.size (.cells #[] 3)).size (.cells #[.bool false, .slice none 0 0, .slice none 0 0] 32))).size (fun k e => by have e2 := Option.some.inj e; rw [← e2]; first | exact HBD.out.size | (have := HBD.out.size; simp; omega)))
        have HKD5 := Lib.hid hkd5; have HKB5 := Lib.hid hkb5; have HK05 := Lib.hid hk05; have HGR5 := Lib.hid hgrow5
        clear hown5 hgrow5 hkd5 hkb5 hk05 _h5
        go_simp
        have HZ5 := Lib.hid (show Blk w5 (wd.heap.size + 1) 32 #[.bool false, .slice none 0 0, .slice none 0 0] from blk_grownBy (blk_at (w := wd.alloc (.cells #[] 3)) (by simp)) HGR5.out (fun e => by have h9 := Option.some.inj e; simp at h9))
        have z0 := blk_cell HZ5.out 0 rfl; have z1 := blk_cell HZ5.out 1 rfl; have z2 := blk_cell HZ5.out 2 rfl
        have y0 := blk_frozen HZ5.out 0; have y1 := blk_frozen HZ5.out 1; have y2 := blk_frozen HZ5.out 2
        refine hK.out _ _ (HG.out _ HB5.out) (fun hHeld => ?_)
        clear hK K
        refine wpAnyH_take (i := 6) (v := (.agg #[.bool leaf, .slice none 0 0, .slice ka5 n.kids.length kc5])) rfl (by kernel_rfl) (by kernel_rfl) (by kernel_rfl) (fun _ _ _ h => h) (Or.inl ⟨by rfl, ?_⟩) hHeld ?_
        · intro w' hSw
          obtain ⟨⟨a0, a1⟩, a2⟩ := hSw
          go_simp
        go_frame
        refine wpAnyH_ready (rs := [8]) (by kernel_rfl) (by simp) ?_
        refine AllReadyH.cons rfl (fun K hK => ?_) AllReadyH.nil
        go_simp
        have HF := Lib.hid (own_fin (w0 := w) (wa := wa) (gx := (wd.heap.size + 1)) (leaf := leaf) (kc := kc5) HZ5.out (HRX.out _ HB5.out) HKD5.out HK05.out HKB5.out (by have := HLT.out; have := HBD.out.size; omega) (by have := HW.out.size; have := HBD.out.size; omega) (by rw [HG2.out]; omega) (by have := HBD.out.size; omega) HB5.out HW.out)
        refine hK.out _ _ (HG.out _ HF.out.2) (fun hHeld => ?_)
        clear hK K
        refine wpAnyH_done (by kernel_rfl) ?_ _
        go_wp2
        go_meet
        exact ⟨(wd.heap.size + 1), _, ka5, kc5, rfl, Lib.hid HF.out.1, Lib.hid HF.out.2, by have := HBD.out.size; omega⟩
    · skip
      go_simp
      refine hK.out _ _ (HG.out _ (HBD.out.alloc HBD.out.size (.cells #[.bool false, .slice none 0 0, .slice none 0 0] 32))) (fun hHeld => ?_)
      clear hK K
      refine wpAnyH_ready (rs := [2]) (by kernel_rfl) (by simp) ?_
      refine AllReadyH.cons rfl (fun K hK => ?_) AllReadyH.nil
      go_simp
      refine hK.out _ _ (HG.out _ ((HBD.out.alloc HBD.out.size (.cells #[.bool false, .slice none 0 0, .slice none 0 0] 32)).alloc (HBD.out.alloc HBD.out.size (.cells #[.bool false, .slice none 0 0, .slice none 0 0] 32)).size (.cells #[] 3))) (fun hHeld => ?_)
      clear hK K
      refine wpAnyH_ready (rs := [5]) (by kernel_rfl) (by simp) ?_
      refine AllReadyH.cons rfl (fun K hK => ?_) AllReadyH.nil
      refine step_append_any _ rfl _ _ 23 rfl (wd.heap.size + 1) 3 i2 (.int .i64 0) 1 8 Try.underlying23 hi2 hz2 hs2 hb2 rfl (by decide) _ _ _ rfl (by have h := row_none (wd.alloc (.cells #[.bool false, .slice none 0 0, .slice none 0 0] 32)) 3 1; rw [World.size_alloc] at h; exact h) _ n.kids.length (kidsC n.kids) rfl (HKS.out _ ((HBD.out.alloc HBD.out.size (.cells #[.bool false, .slice none 0 0, .slice none 0 0] 32)).alloc (HBD.out.alloc HBD.out.size (.cells #[.bool false, .slice none 0 0, .slice none 0 0] 32)).size (.cells #[] 3))) (kids_ones _) (by unfold maxLen; have := HFN.out.2.2; omega) (by have := HFN.out.2.2; omega) (by first | (simp; done) | (simp; omega)) ?_
      intro v5 w5 hown5 hgrow5 _h5
      rw [Nat.zero_add, List.nil_append] at hown5
      obtain ⟨ka5, kc5, hv5, hk05, hkd5, hkb5⟩ := kds_row' hown5
      subst hv5
      have HB5 := Lib.hid ((((HBD.out.alloc HBD.out.size (.cells #[.bool false, .slice none 0 0, .slice none 0 0] 32)).alloc (HBD.out.alloc HBD.out.size (.cells #[.bool false, .slice none 0 0, .slice none 0 0] 32)).size (.cells #[] 3))).grown hgrow5 (((HBD.out.alloc HBD.out.size (.cells #[.bool false, .slice none 0 0, .slice none 0 0] 32)).alloc (HBD.out.alloc HBD.out.size (.cells #[.bool false, .slice none 0 0, .slice none 0 0] 32)).size (.cells #[] 3))).size (fun k e => by have e2 := Option.some.inj e; rw [← e2]; first | exact HBD.out.size | (have := HBD.out.size; simp; omega)))
      have HKD5 := Lib.hid hkd5; have HKB5 := Lib.hid hkb5; have HK05 := Lib.hid hk05; have HGR5 := Lib.hid hgrow5
      clear hown5 hgrow5 hkd5 hkb5 hk05 _h5
      go_simp
      have HZ5 := Lib.hid (show Blk w5 wd.heap.size 32 #[.bool false, .slice none 0 0, .slice none 0 0] from blk_grownBy (blk_alloc (blk_new wd 32 #[.bool false, .slice none 0 0, .slice none 0 0]) (.cells #[] 3)) HGR5.out (fun e => by have h9 := Option.some.inj e; simp at h9))
      have z0 := blk_cell HZ5.out 0 rfl; have z1 := blk_cell HZ5.out 1 rfl; have z2 := blk_cell HZ5.out 2 rfl
      have y0 := blk_frozen HZ5.out 0; have y1 := blk_frozen HZ5.out 1; have y2 := blk_frozen HZ5.out 2
      refine hK.out _ _ (HG.out _ HB5.out) (fun hHeld => ?_)
      clear hK K
      refine wpAnyH_take (i := 6) (v := (.agg #[.bool leaf, .slice none 0 0, .slice ka5 n.kids.length kc5])) rfl (by kernel_rfl) (by kernel_rfl) (by kernel_rfl) (fun _ _ _ h => h) (Or.inl ⟨by rfl, ?_⟩) hHeld ?_
      · intro w' hSw
        obtain ⟨⟨a0, a1⟩, a2⟩ := hSw
        go_simp
      go_frame
      refine wpAnyH_ready (rs := [8]) (by kernel_rfl) (by simp) ?_
      refine AllReadyH.cons rfl (fun K hK => ?_) AllReadyH.nil
      go_simp
      have HF := Lib.hid (own_fin (w0 := w) (wa := wa) (gx := wd.heap.size) (leaf := leaf) (kc := kc5) HZ5.out (HRX.out _ HB5.out) HKD5.out HK05.out HKB5.out (by have := HLT.out; have := HBD.out.size; omega) (by have := HW.out.size; have := HBD.out.size; omega) (by rw [HG2.out]; omega) (by have := HBD.out.size; omega) HB5.out HW.out)
      refine hK.out _ _ (HG.out _ HF.out.2) (fun hHeld => ?_)
      clear hK K
      refine wpAnyH_done (by kernel_rfl) ?_ _
      go_wp2
      go_meet
      exact ⟨wd.heap.size, _, ka5, kc5, rfl, Lib.hid HF.out.1, Lib.hid HF.out.2, by have := HBD.out.size; omega⟩
--END
  case rest =>
    obtain ⟨gx, base, ka2, kc2, rfl, hJ, hB, hgx⟩ := hcut
    have hle : len ≤ 61 := by rw [HL.out]; exact HFN.out.1
    clear HKS HG HWA HRX
    go_wp2_with fail
    go_loopw [4] (fun s4 wr => ∃ (i : Nat) (a : Option Addr) (m c : Nat), s4 = .int .i64 i ∧ i ≤ len ∧ Hid (OJ w gx g2 base leaf (.slice a m c) ka2 n.kids.length kc2 (n.cells.take i) n.kids wr) ∧ Hid (Below wa.heap.size wa wr)) (fun s4 _ => len - (intOf s4).toNat)
    case atStart => exact ⟨0, none, 0, 0, rfl, by omega, Lib.hid (by rw [List.take_zero]; exact hJ.out), hB⟩
    case round =>
      clear hJ hB
      obtain ⟨i, a, m, c, rfl, hi, hJ, hB⟩ := hrel
      have b0 := blk_cell (HBX.out _ hB.out) 0 rfl; have b1 := blk_cell (HBX.out _ hB.out) 1 rfl; have b2 := blk_cell (HBX.out _ hB.out) 2 rfl
      by_cases hlt : i < len
      · have hlt' : i < n.cells.length := by have := HL.out; omega
        have t1 : (i : Int) < len := by omega
        obtain ⟨b, off, rfl, hbw, c0, c1, c2, c3⟩ := (cls_next HC1.out hB.out) i hlt'
        have hsn := take_snoc hlt'
        obtain ⟨x, hx⟩ : ∃ x, x = n.cells[i] := ⟨_, rfl⟩
        rw [← hx] at c0 c1 c2 c3 hsn
        have HSN := Lib.hid hsn
        obtain ⟨KX, hKX⟩ : ∃ K, K = nb x.key := ⟨_, rfl⟩
        obtain ⟨LX, hLX⟩ : ∃ K, K = nb x.loc := ⟨_, rfl⟩
        rw [← hKX] at c0
        rw [← hLX] at c2
        have HQX := Lib.hid (show KX = nb x.key ∧ LX = nb x.loc from ⟨hKX, hLX⟩)
        clear hx hsn hKX hLX
        go_upto_region 6 with (fail)
        have hn := blk_new wr 45 #[.string KX, .int .i64 x.len, .string LX, .int .i64 x.ov]
        have hw := blw1 wr (.cells #[.string KX, .int .i64 x.len, .string LX, .int .i64 x.ov] 45)
        have HJ5 := Lib.hid (hJ.out.below hw)
        have HB5 := Lib.hid (hB.out.trans (hw.mono hB.out.size))
        clear hw c0 c1 c2 c3 b0 b1 b2 hJ hB
        generalize wr.alloc (.cells #[.string KX, .int .i64 x.len, .string LX, .int .i64 x.ov] 45) = W5 at *
        have d0 := blk_cell hn 0 rfl; have d1 := blk_cell hn 1 rfl; have d2 := blk_cell hn 2 rfl; have d3 := blk_cell hn 3 rfl
        have x1 := blk_cell HJ5.out.hx 1 rfl
        have HJA := Lib.hid (HJ5.out.below (blw1 W5 (.cells #[.string KX, .int .i64 x.len, .string LX, .int .i64 x.ov] 51)))
        have HBA := Lib.hid (HB5.out.alloc HB5.out.size (.cells #[.string KX, .int .i64 x.len, .string LX, .int .i64 x.ov] 51))
        have hll : (n.cells.take i).length ≤ 61 := by rw [List.length_take]; omega
        clear hn
        go_wp2_with (at_builtin; go_must (refine wpList_append_any _ rfl _ _ 30 rfl base 51 i1 _ 4 48 Try.underlying30 hi1 hz1 hs1 hb1 rfl (by decide) _ _ _ rfl HJA.out.cr _ 1 (celsC [x]) rfl (src_gen W5 51 x KX LX x.len x.ov (by first | exact ⟨HQX.out.1, HQX.out.2, rfl, rfl⟩)) (cels_ones _) (by unfold maxLen; omega) (by omega) HJA.out.bs ?_; intro v7 U7 ho hg hv; obtain ⟨p7, m7, q7, e7⟩ := oj_cv3 (HJA.out.cells ho hg); subst e7; have HJ7 := Lib.hid (HJA.out.cells ho hg); have HB7 := Lib.hid (show Below wa.heap.size wa (U7.setCell ⟨gx, 1, none⟩ (.slice p7 m7 q7)) from (HBA.out.grown hg HBA.out.size (fun k e => by have := (HJA.out.cr.lt k e).1; have := HJA.out.lx; omega)).setCell hgx _); have hxx := blk_grownBy HJA.out.hx hg (row_far (W' := U7) HJA.out.cr HJA.out.lx); have y3 := blk_cell hxx 1 rfl; have y4 := blk_frozen hxx 1; clear ho hg hv hxx))
        go_roundw
        case rel => exact ⟨i + 1, p7, _, q7, by go_num, by omega, by rw [HSN.out]; exact HJ7, HB7⟩
        case measure => simp only [intOf]; omega
      · obtain rfl : i = len := by omega
        have t1 : ¬ (i : Int) < i := by omega
        have HJN := Lib.hid (show OJ w gx g2 base leaf (.slice a m c) ka2 n.kids.length kc2 n.cells n.kids wr from by
          have h := hJ.out
          rwa [List.take_of_length_le (by have := HL.out; omega)] at h)
        have x0 := blk_cell HJN.out.hx 0 rfl; have x1 := blk_cell HJN.out.hx 1 rfl; have x2 := blk_cell HJN.out.hx 2 rfl
        have z0 := blk_cell HJN.out.hr 0 rfl; have z1 := blk_cell HJN.out.hr 1 rfl; have z2 := blk_cell HJN.out.hr 2 rfl
        have y0 := blk_frozen HJN.out.hr 0; have y1 := blk_frozen HJN.out.hr 1; have y2 := blk_frozen HJN.out.hr 2
        go_wp2
        obtain ⟨W2, hW2, q1, q2⟩ := HJN.out.done
        rw [← hW2]
        refine bodyPost_ret (results_cell_row rfl _ _ g2 _ _ _ _ rfl q1 Try.underlying32 rfl (by kernel_rfl)) rfl ?_
        have hn : n = ⟨leaf, n.cells, n.kids⟩ := by rw [HLF.out]
        rw [hn]
        exact q2
theorem own_any (n : Nod) (ca ka : Option Addr) (cc kc : Nat) (w : World) (hz : FineN n) (hc : Cls w ca n.cells) (hk : Kds w ka n.kids) (hn : ka = none → kc = 0) :
    Calls Try.prog 9 #[.agg #[.bool n.leaf, .slice ca n.cells.length cc, .slice ka n.kids.length kc]] w (NodQ n w) :=
  own_leaf n.leaf n rfl ca ka cc kc w hz hc hk hn
end Go.Proofs.Ytdpjmijdlheajaa
