/-
  Layer 11, first: the segment at the start of a string, or none: it changes nothing that was there. Condition: at most 2^20 bytes.
-/
import Derived.Test.YtjmciknelkodcaaJrLeaf
import Derived.Test.YtjmciknelkodcaaJhLaws1
import Derived.Test.YtjmciknelkodcaaJpLaws1
import Derived.Test.YtjmciknelkodcaaSpRead
namespace Go.Proofs.Ytjmciknelkodcaa
open Go.RowKit

theorem own_not {W : World} {base : Nat} {e t : TypeId} {size : Nat} {v : Value} {n : Nat} {xs : List Value} (h : W.ownsRow base e size v n xs) {g : Nat} {cs : Array Value} (hb : Blk W g t cs) (hne : t ≠ e) : v.ownBlock ≠ some g := by
  intro hk
  rcases h.2 with ⟨rfl, rfl⟩ | ⟨g', cap, cur, rfl, hb', hg, -⟩
  · cases hk
  · obtain rfl : g' = g := Option.some.inj hk
    unfold Blk at hb
    rw [hb] at hg
    cases hg
    exact hne rfl
theorem blk_own {W W' : World} {base : Nat} {e t : TypeId} {size : Nat} {v : Value} {n : Nat} {xs : List Value} {g : Nat} {cs : Array Value} (hb : Blk W g t cs) (h : W.ownsRow base e size v n xs) (hne : t ≠ e) (hg : W.grownBy W' v.ownBlock) : Blk W' g t cs :=
  (hg.block g (blk_lt hb) (fun e => own_not h hb hne e.symm)).trans hb
theorem own_set {W : World} {base : Nat} {e t : TypeId} {size : Nat} {v : Value} {n : Nat} {xs : List Value} {g : Nat} {cs : Array Value} (h : W.ownsRow base e size v n xs) (hb : Blk W g t cs) (hne : t ≠ e) (i : Nat) (x : Value) : (W.setCell ⟨g, i, none⟩ x).ownsRow base e size v n xs :=
  h.kept (Lib.grownBy_setCell W g i x) (by
    cases hv : v.ownBlock with
    | none => exact .inl rfl
    | some k => exact .inr fun e => own_not h hb hne (hv.trans e))
theorem blk3_of {v : World} {g : Nat} {t : TypeId} {x y z : Value} (h : Blk v g t #[x, y, z]) : v.cell? ⟨g, 0, none⟩ = some x ∧ v.cell? ⟨g, 1, none⟩ = some y ∧ v.cell? ⟨g, 2, none⟩ = some z ∧ Blk v g t #[x, y, z] := ⟨blk_cell h 0 rfl, blk_cell h 1 rfl, blk_cell h 2 rfl, h⟩
theorem blk_drew {v : World} {g : Nat} {t : TypeId} {cs : Array Value} (h : Blk v g t cs) : Blk v.drew g t cs := h
def zSeg : Array Value := #[.int .i64 0, .slice none 0 0, .string ⟨#[]⟩]
theorem segNeRec : 58 ≠ 52 := by decide
theorem headNeRec : 65 ≠ 52 := by decide

def FirstQ (l : List UInt8) (w : World) (e : Ending) (w' : World) : Prop :=
  Below w.heap.size w w' ∧ ((fsS l = none ∧ e = .returned (.tuple #[.agg zSeg, .bool false])) ∨ ∃ a cap g, fsS l = some g ∧ e = .returned (.tuple #[.agg #[.int .i64 g.p, .slice a g.L.length cap, .string (ba g.t)], .bool true]) ∧ Recs w' a g.L ∧ ∀ b off, a = some ⟨b, off, none⟩ → w.heap.size ≤ b ∧ b < w'.heap.size)

set_option maxHeartbeats 4000000 in
set_option maxRecDepth 100000 in
theorem first_any (l : List UInt8) (hs : l.length ≤ 1048576) (w : World) : Calls Try.prog 37 #[.string (ba l)] w (FirstQ l w) := by
  obtain ⟨⟨a, b, c⟩, f, hr⟩ : ∃ (h : H8) (e : Int), rdH l = (h, e) := ⟨_, _, rfl⟩
  have hsz := ba_size l
  have k1 := fun w => jread_is (s := ba l) (by omega) (a := a) (b := b) (c := c) (e := f) hr w
  have HZ := Lib.hid (blk_new w 58 zSeg)
  by_cases h0 : f = 0
  case neg =>
    have t1 : (f != 0) = true := by simpa using h0
    have HF := Lib.hid (fsS_none (s := l) (.inl (by rw [hr]; exact h0)))
    clear h0 hr
    go_enter Try.func37, Try.ntmps37
    go_wp2_with (go_at_call 52; (with_reducible refine (k1 _).mono ?_); rintro e w1 ⟨rfl, b1⟩; have HR := Lib.hid (blk_alloc (blk_below HZ.out b1) (.cells #[.int .i64 a, .int .i64 b, .int .i64 c] 65)); have HB := Lib.hid ((blw_new b1).alloc (blw_new b1).size (.cells #[.int .i64 a, .int .i64 b, .int .i64 c] 65)); clear b1; have z0 := blk_cell HR.out 0 rfl; have z1 := blk_cell HR.out 1 rfl; have z2 := blk_cell HR.out 2 rfl; have z3 := blk_frozen HR.out 0; have z4 := blk_frozen HR.out 1; have z5 := blk_frozen HR.out 2)
    refine bodyPost_ret (results_pair rfl _ _ w.heap.size _ _ _ rfl (blk_set (blk_set (blk_set HR.out 0 _) 1 _) 2 _) Try.underlying58 rfl (by kernel_rfl)) rfl ?_
    exact ⟨blw_set (blw_set (blw_set HB.out (Nat.le_refl _) 0 _) (Nat.le_refl _) 1 _) (Nat.le_refl _) 2 _, .inl ⟨HF.out, rfl⟩⟩
  subst h0
  have hok := rdH_ok (s := l) (by rw [hr])
  rw [hr] at hok
  obtain ⟨h32, ⟨ha0, ha1⟩, ⟨hb0, hb1⟩, hc0, hc1⟩ := hok
  simp only at ha0 ha1 hb0 hb1 hc0 hc1
  obtain ⟨m, rfl⟩ : ∃ m : Nat, a = m := ⟨a.toNat, by omega⟩
  have HFS := Lib.hid (fun L (hL : sgR c (l.drop 32) m = some L) => show fsS l = some ⟨b, L, l.drop (32 + 520 * m)⟩ by
    have := fsS_some (s := l) (by rw [hr]) (L := L) (by rw [hr]; exact hL)
    rw [this, hr]; rfl)
  have HFN := Lib.hid (fun (hL : sgR c (l.drop 32) m = none) => fsS_none (s := l) (.inr (by rw [hr]; exact hL)))
  obtain ⟨s, hsl⟩ : ∃ s, s = ba l := ⟨_, rfl⟩
  have HD := Lib.hid (show s.extract 32 s.size = ba (l.drop 32) by rw [hsl, sext_drop])
  rw [← hsl] at hsz k1 ⊢
  have hz32 : 32 ≤ s.size := by omega
  have hzi : (32 : Int) ≤ s.size := by omega
  obtain ⟨i1, hi1, hz1, hs1, hb2⟩ := info_parts infoJR
  clear hr hsl hsz
  go_enter Try.func37, Try.ntmps37
  go_upto_region 4 with (go_at_call 52; (with_reducible refine (k1 _).mono ?_); rintro e w1 ⟨rfl, b1⟩)
  have HR := Lib.hid (blk_alloc (blk_below HZ.out b1) (.cells #[.int .i64 m, .int .i64 b, .int .i64 c] 65))
  have HH := Lib.hid (blk_new w1 65 #[.int .i64 m, .int .i64 b, .int .i64 c])
  have HB := Lib.hid ((blw_new b1).alloc (blw_new b1).size (.cells #[.int .i64 m, .int .i64 b, .int .i64 c] 65))
  have hw1 : w.heap.size < w1.heap.size := Nat.lt_of_lt_of_le (by simp) b1.size
  clear b1 HZ k1
  revert HR HH HB
  obtain ⟨W0, hW0⟩ : ∃ W0, W0 = w1.alloc (.cells #[.int .i64 m, .int .i64 b, .int .i64 c] 65) := ⟨_, rfl⟩
  rw [← hW0]
  clear hW0
  revert hw1
  generalize w1.heap.size = H
  intro hw1 HR HH HB
  clear w1
  go_region_held3 (fun v => v.cell? ⟨H, 0, none⟩ = some (.int .i64 m) ∧ v.cell? ⟨H, 1, none⟩ = some (.int .i64 b) ∧ v.cell? ⟨H, 2, none⟩ = some (.int .i64 c) ∧ Blk v H 65 #[.int .i64 m, .int .i64 b, .int .i64 c])
    (first | assumption | exact blk3_of HH.out | exact blk3_of (blk_drew HH.out) | exact blk3_of (blk_drew (blk_alloc HH.out _)) | exact blk3_of (blk_alloc HH.out _))
    (fail)
  rename_i hHeld
  clear hHeld
  rw [HD.out]
  have HG := blk_drew (blk_new W0 58 #[.int .i64 b, .slice none 0 0, .string (ba (l.drop 32))])
  have HR1 := blk_drew (blk_alloc HR.out (.cells #[.int .i64 b, .slice none 0 0, .string (ba (l.drop 32))] 58))
  have HH1 := blk_drew (blk_alloc HH.out (.cells #[.int .i64 b, .slice none 0 0, .string (ba (l.drop 32))] 58))
  have HB1 := (HB.out.alloc HB.out.size (.cells #[.int .i64 b, .slice none 0 0, .string (ba (l.drop 32))] 58)).drew
  have hGw := HB.out.size
  have hHlt := blk_lt HH.out
  clear HR HH HB HD
  have hHG : H < W0.heap.size := hHlt
  clear hHlt
  revert HG HR1 HH1 HB1 hGw hHG
  generalize (W0.alloc (.cells #[.int .i64 b, .slice none 0 0, .string (ba (l.drop 32))] 58)).drew = W1
  generalize W0.heap.size = G
  intro HG HR1 HH1 HB1 hGw hHG
  have d0 := blk_cell HH1 0 rfl
  have HG := Lib.hid HG; have HR1 := Lib.hid HR1; have HH1 := Lib.hid HH1; have HB1 := Lib.hid HB1
  clear W0 hz32 hzi
  go_wp2
  clear d0
  go_loopw [25] (fun i wr => ∃ (k : Nat) (v : Value) (L : List R11), k ≤ m ∧ i = .int .i64 k ∧ Hid (sgR c (l.drop 32) k = some L) ∧ Hid (wr.ownsRow w.heap.size 52 2 v k (recsC L)) ∧ Hid (Blk wr G 58 #[.int .i64 b, v, .string (ba (l.drop (32 + 520 * k)))]) ∧ Hid (Blk wr H 65 #[.int .i64 m, .int .i64 b, .int .i64 c]) ∧ Hid (Blk wr w.heap.size 58 zSeg) ∧ Hid (Below w.heap.size w wr)) (fun i _ => m - (intOf i).toNat)
  case atStart => exact ⟨0, .slice none 0 0, [], by omega, rfl, Lib.hid rfl, Lib.hid (World.ownsRow_nil _ _ _ _), HG, HH1, HR1, HB1⟩
  case round =>
    clear HG HR1 HH1 HB1
    obtain ⟨k, v, L, hk, rfl, hsg, hown, hG, hH, hR, hB⟩ := hrel
    have g0 := blk_cell hG.out 0 rfl
    have g1 := blk_cell hG.out 1 rfl
    have g2 := blk_cell hG.out 2 rfl
    have e0 := blk_cell hH.out 0 rfl
    have e2 := blk_cell hH.out 2 rfl
    by_cases hlt : k < m
    case neg =>
      obtain rfl : k = m := by omega
      obtain ⟨a1, cap1, rfl, -, -, -⟩ := recs_of_own hown.out
      have z0 := blk_cell hR.out 0 rfl
      have z1 := blk_cell hR.out 1 rfl
      have z2 := blk_cell hR.out 2 rfl
      have z3 := blk_frozen hR.out 0
      have z4 := blk_frozen hR.out 1
      have z5 := blk_frozen hR.out 2
      go_wp2
      refine bodyPost_ret (results_pair rfl _ _ w.heap.size _ _ _ rfl (blk_set (blk_set (blk_set hR.out 0 _) 1 _) 2 _) Try.underlying58 rfl (by kernel_rfl)) rfl ?_
      have o1 := own_set hown.out hR.out segNeRec 0 (.int .i64 b)
      have o2 := own_set o1 (blk_set hR.out 0 (.int .i64 b)) segNeRec 1 (.slice a1 k cap1)
      have o3 := own_set o2 (blk_set (blk_set hR.out 0 (.int .i64 b)) 1 (.slice a1 k cap1)) segNeRec 2 (.string (ba (l.drop (32 + 520 * k))))
      obtain ⟨a', cap', hv, hln, hrec, hbs⟩ := recs_of_own o3
      cases hv
      subst hln
      exact ⟨blw_set (blw_set (blw_set hB.out (Nat.le_refl _) 0 _) (Nat.le_refl _) 1 _) (Nat.le_refl _) 2 _, .inr ⟨a1, cap1, _, HFS.out L hsg.out, rfl, hrec, hbs⟩⟩
    obtain ⟨n, D, e, hrd⟩ : ∃ (n : Int) (D : ByteArray) (e : Int), rdP (l.drop (32 + 520 * k)) c = ⟨n, D.data.toList, e⟩ := ⟨_, ⟨(rdP (l.drop (32 + 520 * k)) c).d.toArray⟩, _, rfl⟩
    have hXz : (ba (l.drop (32 + 520 * k))).size = l.length - (32 + 520 * k) := by rw [ba_size, List.length_drop]
    have k2 := fun w => pread_is (s := ba (l.drop (32 + 520 * k))) (by omega) (k := c) (by omega) (by omega) (n := n) (e := e) (D := D) hrd w
    by_cases h0 : e = 0
    case neg =>
      have HN := Lib.hid (HFN.out (sgR_bad hlt (by rw [List.drop_drop, hrd]; exact h0)))
      have t1 : (e != 0) = true := by simpa using h0
      clear h0 hrd hXz
      generalize ba (l.drop (32 + 520 * k)) = X at *
      go_wp2_with (go_at_call 53; (with_reducible refine (k2 _).mono ?_); rintro e w2 ⟨rfl, b2⟩; have HR2 := Lib.hid (blk_below hR.out b2); have HB2 := Lib.hid (hB.out.trans (b2.mono hB.out.size)); clear b2; have z0 := blk_cell HR2.out 0 rfl; have z1 := blk_cell HR2.out 1 rfl; have z2 := blk_cell HR2.out 2 rfl; have z3 := blk_frozen HR2.out 0; have z4 := blk_frozen HR2.out 1; have z5 := blk_frozen HR2.out 2)
      refine bodyPost_ret (results_pair rfl _ _ w.heap.size _ _ _ rfl (blk_set (blk_set (blk_set HR2.out 0 _) 1 _) 2 _) Try.underlying58 rfl (by kernel_rfl)) rfl ?_
      exact ⟨blw_set (blw_set (blw_set HB2.out (Nat.le_refl _) 0 _) (Nat.le_refl _) 1 _) (Nat.le_refl _) 2 _, .inl ⟨HN.out, rfl⟩⟩
    subst h0
    have hrok := rdP_ok (l := l.drop (32 + 520 * k)) (k := c) (by rw [hrd])
    have HSG := Lib.hid (show sgR c (l.drop 32) (k + 1) = some (L ++ [⟨n, D.data.toList⟩]) by
      have := sgR_next hsg.out (by rw [List.drop_drop, hrd])
      rw [List.drop_drop, hrd] at this
      exact this)
    have h520 := hrok.2
    rw [List.length_drop] at h520
    have HDR := Lib.hid (show (ba (l.drop (32 + 520 * k))).extract 520 (ba (l.drop (32 + 520 * k))).size = ba (l.drop (32 + 520 * (k + 1))) by rw [sext_drop, List.drop_drop]; congr 2)
    clear hrok hrd
    generalize ba (l.drop (32 + 520 * k)) = X at *
    have hX1 : 520 ≤ X.size := by omega
    have hX2 : (520 : Int) ≤ X.size := by omega
    clear hXz
    have hklt : (k : Int) < m := by omega
    have hwB := hB.out.size
    go_wp2_with (first
      | (go_at_call 53; (with_reducible refine (k2 _).mono ?_); rintro e w2 ⟨rfl, b2⟩; have HG2 := Lib.hid (blk_below hG.out b2); have HO2 := Lib.hid (rown_below hown.out b2); have g4 := blk_cell HG2.out 1 rfl)
      | (at_builtin; refine wpList_append_lies _ rfl _ _ _ rfl w.heap.size 52 i1 _ 2 24 Try.underlying23 hi1 hz1 hs1 hb2 rfl (by omega) v k (recsC L) rfl (HO2.out.alloc _) ⟨w2.heap.size, 0, none⟩ 1 1 (recC ⟨n, D.data.toList⟩) rfl rfl (rnews w2 ⟨n, D.data.toList⟩ _) (rone ⟨n, D.data.toList⟩) (by omega) (by unfold maxLen; omega) (by omega) (by have h2 := b2.size; simp only [World.size_alloc]; omega) (w2.heap.size + 1) (by simp) ?_; intro g3 cap3 w3 hown3 hgrow3 hat3 hlt3; have HG3 := Lib.hid (blk_own (blk_alloc HG2.out _) (HO2.out.alloc _) segNeRec hgrow3); have y0 := blk_cell HG3.out 0 rfl; have y1 := blk_cell HG3.out 1 rfl; have y2 := blk_cell HG3.out 2 rfl; have y3 := blk_frozen HG3.out 1; have y4 := blk_frozen HG3.out 2; clear g0 g1 g2 g4 hat3))
    rw [HDR.out]
    have HO3 := Lib.hid (show w3.ownsRow w.heap.size 52 2 (.slice (some ⟨g3, 0, none⟩) (k + 1) cap3) (k + 1) (recsC (L ++ [⟨n, D.data.toList⟩])) by rw [recsC_snoc]; exact hown3)
    have hb2s := b2.size
    have HB3 := Lib.hid (rbelow_own ((hB.out.trans (b2.mono hwB)).alloc (by omega) _) (HO2.out.alloc _) hgrow3)
    have HH3 := Lib.hid (blk_own (blk_alloc (blk_below hH.out b2) _) (HO2.out.alloc _) headNeRec hgrow3)
    have HR3 := Lib.hid (blk_own (blk_alloc (blk_below hR.out b2) _) (HO2.out.alloc _) segNeRec hgrow3)
    clear hown3 hgrow3 b2 k2 hG hH hR hB HG2 HO2 hown hsg HDR
    go_roundw
    case rel =>
      refine ⟨k + 1, _, _, by omega, by go_num, HSG, Lib.hid (own_set (own_set HO3.out HG3.out segNeRec 1 _) (blk_set HG3.out 1 _) segNeRec 2 _), Lib.hid (blk_set (blk_set HG3.out 1 _) 2 _), Lib.hid (blk_other (blk_other HH3.out (by omega) 1 _) (by omega) 2 _), Lib.hid (blk_other (blk_other HR3.out (by omega) 1 _) (by omega) 2 _), Lib.hid (blw_set (blw_set HB3.out (by omega) 1 _) (by omega) 2 _)⟩
    case measure => simp [intOf]; omega
end Go.Proofs.Ytjmciknelkodcaa
