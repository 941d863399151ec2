/-
  Layer 11, the document's Read (annexeref11), walked: it returns the same contents and changes nothing that was there. Condition: at most 2^20 bytes.
-/
import Derived.Test.YthfebcfdhmihcaaGreatDoorMh11
namespace Go.Proofs.YthfebcfdhmihcaaGreatDoor
open Go.RowKit

set_option maxHeartbeats 4000000 in
set_option maxRecDepth 100000 in
theorem qread11_any (s : List UInt8) (hs : s.length ≤ 1048576) (w : World) : Calls Tryz.prog 42 #[.string (ba s)] w (ReadQ s w) := by
  obtain ⟨X, hX⟩ : ∃ X, X = rdG (s.length + 1) s ⟨0, 0, []⟩ := ⟨_, rfl⟩
  have HRJ := Lib.hid (show rdJ s = endJ X by rw [hX]; rfl)
  obtain ⟨N, hN⟩ : ∃ N, N = w.heap.size := ⟨_, rfl⟩
  have HN := Lib.hid hN
  have HP0 := Lib.hid (show PJ X 0 0 [] (s.drop 0) from ⟨⟨_, hX.symm, by simp⟩, by simpa using hs, by simpa using hs⟩)
  have HQ0 := Lib.hid (show QJ N w 0 0 [] (.slice none 0 0) ((w.alloc (.cells #[.int .i64 0, .int .i64 0, .slice none 0 0, .string ⟨#[]⟩] 75)).alloc (.cells #[.int .i64 0, .int .i64 0, .slice none 0 0, .string ⟨#[]⟩] 75)) from
    ⟨(((Below.refl N w).alloc (by omega) _).alloc (by simp; omega) _), blk_alloc (blk_at hN) _, blk_at (by rw [hN]; simp), World.ownsRow_nil _ _ _ _⟩)
  obtain ⟨S, hS⟩ : ∃ S, S = ba s := ⟨_, rfl⟩
  have hSz : S.size = s.length := by rw [hS, ba_size]
  have HSD := Lib.hid (fun at_ => show S.extract at_ S.size = ba (s.drop at_) by rw [hS, sext_drop])
  have hSb : S.size ≤ 1048576 := by omega
  have HSZ := Lib.hid hSz
  rw [← hS]
  clear hX hS hSz
  go_enter Tryz.func42, Tryz.ntmps42
  go_wp2
  revert HQ0
  generalize (w.alloc (.cells #[.int .i64 0, .int .i64 0, .slice none 0 0, .string ⟨#[]⟩] 75)).alloc (.cells #[.int .i64 0, .int .i64 0, .slice none 0 0, .string ⟨#[]⟩] 75) = W0
  rw [← hN]
  clear hN
  intro HQ0
  go_loopw [4] (fun t4 wr => ∃ (at_ k : Nat) (p : Int) (L : List R11) (v : Value), t4 = .int .i64 at_ ∧ at_ ≤ S.size ∧ Hid (QJ N w k p L v wr) ∧ Hid (PJ X k p L (s.drop at_))) (fun t4 _ => S.size - (intOf t4).toNat)
  case atStart => exact ⟨0, 0, 0, [], _, rfl, by omega, HQ0, HP0⟩
  case round =>
    clear HQ0 HP0
    obtain ⟨at_, k, p, L, v, rfl, hat, hQ, hP⟩ := hrel
    have hati : (at_ : Int) ≤ S.size := by omega
    have HE := Lib.hid (HSD.out at_)
    have HRL := Lib.hid (show (s.drop at_).length = S.size - at_ by rw [List.length_drop, HSZ.out])
    have HDD := Lib.hid (fun m => show (s.drop at_).drop m = s.drop (at_ + m) by rw [List.drop_drop])
    obtain ⟨r, hr⟩ : ∃ r, r = s.drop at_ := ⟨_, rfl⟩
    rw [← hr] at HE HRL hP HDD
    clear hr
    have hrl : r.length ≤ 1048576 := by have := HRL.out; omega
    have j0 := blk_cell hQ.out.jour 0 rfl
    have j1 := blk_cell hQ.out.jour 1 rfl
    have kn := fun w => r10named_any (ba r) (by rw [ba_size]; exact hrl) w
    rw [ba_list] at kn
    rw [← HE.out] at kn
    cases hf : fsS r with
    | none =>
      have HX := Lib.hid (show X = (⟨k, p, L⟩, r) by
        obtain ⟨⟨f, e, -⟩, -⟩ := hP.out
        rw [← e, rdG_none hf])
      have k1 := fun w => part_no hrl hf w
      rw [← HE.out] at k1
      clear hf
      go_wp2_with (go_at_call 84; (with_reducible refine (k1 _).mono ?_); rintro e w1 ⟨hx, hy, hz, rfl, b1⟩; have HQ1 := Lib.hid (qj_alloc (qj_below hQ.out b1) (.cells #[.int .i64 hx, .int .i64 hy, .int .i64 hz] 137)); clear b1 j0 j1; have j0 := blk_cell HQ1.out.jour 0 rfl; have j1 := blk_cell HQ1.out.jour 1 rfl)
      clear hP
      obtain ⟨a, cap, rfl, -, -, -⟩ := recs_of_own HQ1.out.own
      by_cases h0 : 0 < k ∧ (namS r).2 = 0
      · obtain ⟨hk0, he0⟩ := h0
        have HRE := Lib.hid (show rdJ s = ⟨k, p, L, (namS r).1⟩ by rw [HRJ.out, HX.out, endJ]; simp only [if_pos hk0])
        rw [he0] at kn
        go_wp2_with (go_at_call 86; (with_reducible refine (kn _).mono ?_); rintro e w3 ⟨rfl, b3⟩; have HQ3 := Lib.hid (qj_below HQ1.out b3); clear b3 j0 j1; have j0 := blk_cell HQ3.out.jour 0 rfl; have j1 := blk_cell HQ3.out.jour 1 rfl; have j2 := blk_cell HQ3.out.jour 2 rfl; have j3 := blk_cell HQ3.out.jour 3 rfl; have j4 := blk_frozen HQ3.out.jour 3; have z0 := blk_cell HQ3.out.res 0 rfl; have z1 := blk_cell HQ3.out.res 1 rfl; have z2 := blk_cell HQ3.out.res 2 rfl; have z3 := blk_cell HQ3.out.res 3 rfl; have f0 := blk_frozen HQ3.out.res 0; have f1 := blk_frozen HQ3.out.res 1; have f2 := blk_frozen HQ3.out.res 2; have f3 := blk_frozen HQ3.out.res 3)
        obtain ⟨e2, e3, e4⟩ := qread_end (k := k) (p := p) (ba (namS r).1) HN.out (HQ3.out.below.setCell (p := ⟨N + 1, 3, none⟩) (by show N ≤ N + 1; omega) (.string (ba (namS r).1))) (blk_other HQ3.out.res (by omega) 3 (.string (ba (namS r).1))) (own_set HQ3.out.own HQ3.out.jour qjourNeRec 3 (.string (ba (namS r).1)))
        refine bodyPost_ret (results_cell_row rfl _ _ N _ _ _ _ rfl e2 Tryz.underlying75 rfl (by kernel_rfl)) rfl ?_
        exact ⟨e3, a, cap, by rw [HRE.out], by rw [HRE.out]; exact e4⟩
      · have HRE := Lib.hid (show rdJ s = ⟨k, p, L, []⟩ by
          rw [HRJ.out, HX.out, endJ]
          by_cases hk0 : 0 < k
          · simp only [if_pos hk0]; rw [nam_none (fun e => h0 ⟨hk0, e⟩)]
          · simp only [if_neg hk0])
        have hcs : ¬ 0 < k ∨ ((namS r).2 == 0) = false := by
          by_cases hk0 : 0 < k
          · exact .inr (by simpa using fun e => h0 ⟨hk0, e⟩)
          · exact .inl hk0
        clear h0
        generalize (namS r).2 = ne at *
        rcases hcs with hcs | hcs
        all_goals (
          go_wp2_with (go_at_call 86; (with_reducible refine (kn _).mono ?_); rintro e w3 ⟨rfl, b3⟩; have HQ3 := Lib.hid (qj_below HQ1.out b3); clear b3 j0 j1; have j0 := blk_cell HQ3.out.jour 0 rfl; have j1 := blk_cell HQ3.out.jour 1 rfl; have j2 := blk_cell HQ3.out.jour 2 rfl; have j3 := blk_cell HQ3.out.jour 3 rfl; have j4 := blk_frozen HQ3.out.jour 3; have z0 := blk_cell HQ3.out.res 0 rfl; have z1 := blk_cell HQ3.out.res 1 rfl; have z2 := blk_cell HQ3.out.res 2 rfl; have z3 := blk_cell HQ3.out.res 3 rfl; have f0 := blk_frozen HQ3.out.res 0; have f1 := blk_frozen HQ3.out.res 1; have f2 := blk_frozen HQ3.out.res 2; have f3 := blk_frozen HQ3.out.res 3)
          all_goals (
            obtain ⟨e2, e3, e4⟩ := qread_end (k := k) (p := p) ⟨#[]⟩ HN.out HQ3.out.below HQ3.out.res HQ3.out.own
            refine bodyPost_ret (results_cell_row rfl _ _ N _ _ _ _ rfl e2 Tryz.underlying75 rfl (by kernel_rfl)) rfl ?_
            exact ⟨e3, a, cap, by rw [HRE.out]; rfl, by rw [HRE.out]; exact e4⟩))
    | some g =>
      have hlt := fsS_lt hf
      obtain ⟨⟨gp0, gp1⟩, hgl, hgok, hgt, hglen⟩ := fsS_ok hf
      have k1 := fun w => part_yes hrl hf w
      rw [← HE.out] at k1
      by_cases hbr : 0 < k ∧ g.p ≠ p
      · have HX := Lib.hid (show X = (⟨k, p, L⟩, r) by
          obtain ⟨⟨f, e, -⟩, -⟩ := hP.out
          rw [← e, rdG_stop (j := ⟨k, p, L⟩) hf hbr])
        have t1 : (0 : Int) < (k : Int) := by omega
        have t2 : (g.p != p) = true := by simpa using hbr.2
        clear hf hbr hlt hgok hgt hglen hgl
        go_wp2_with (go_at_call 84; (with_reducible refine (k1 _).mono ?_); rintro e w1 ⟨a1, cap1, hx, hz, rfl, b1, -, -⟩; have HQ1 := Lib.hid (qj_alloc (qj_below hQ.out b1) (.cells #[.int .i64 hx, .int .i64 g.p, .int .i64 hz] 137)); clear b1 j0 j1; have j0 := blk_cell HQ1.out.jour 0 rfl; have j1 := blk_cell HQ1.out.jour 1 rfl)
        clear hP
        obtain ⟨a, cap, rfl, -, -, -⟩ := recs_of_own HQ1.out.own
        by_cases h0 : 0 < k ∧ (namS r).2 = 0
        · obtain ⟨hk0, he0⟩ := h0
          have HRE := Lib.hid (show rdJ s = ⟨k, p, L, (namS r).1⟩ by rw [HRJ.out, HX.out, endJ]; simp only [if_pos hk0])
          rw [he0] at kn
          go_wp2_with (go_at_call 86; (with_reducible refine (kn _).mono ?_); rintro e w3 ⟨rfl, b3⟩; have HQ3 := Lib.hid (qj_below HQ1.out b3); clear b3 j0 j1; have j0 := blk_cell HQ3.out.jour 0 rfl; have j1 := blk_cell HQ3.out.jour 1 rfl; have j2 := blk_cell HQ3.out.jour 2 rfl; have j3 := blk_cell HQ3.out.jour 3 rfl; have j4 := blk_frozen HQ3.out.jour 3; have z0 := blk_cell HQ3.out.res 0 rfl; have z1 := blk_cell HQ3.out.res 1 rfl; have z2 := blk_cell HQ3.out.res 2 rfl; have z3 := blk_cell HQ3.out.res 3 rfl; have f0 := blk_frozen HQ3.out.res 0; have f1 := blk_frozen HQ3.out.res 1; have f2 := blk_frozen HQ3.out.res 2; have f3 := blk_frozen HQ3.out.res 3)
          obtain ⟨e2, e3, e4⟩ := qread_end (k := k) (p := p) (ba (namS r).1) HN.out (HQ3.out.below.setCell (p := ⟨N + 1, 3, none⟩) (by show N ≤ N + 1; omega) (.string (ba (namS r).1))) (blk_other HQ3.out.res (by omega) 3 (.string (ba (namS r).1))) (own_set HQ3.out.own HQ3.out.jour qjourNeRec 3 (.string (ba (namS r).1)))
          refine bodyPost_ret (results_cell_row rfl _ _ N _ _ _ _ rfl e2 Tryz.underlying75 rfl (by kernel_rfl)) rfl ?_
          exact ⟨e3, a, cap, by rw [HRE.out], by rw [HRE.out]; exact e4⟩
        · have HRE := Lib.hid (show rdJ s = ⟨k, p, L, []⟩ by
            rw [HRJ.out, HX.out, endJ]
            by_cases hk0 : 0 < k
            · simp only [if_pos hk0]; rw [nam_none (fun e => h0 ⟨hk0, e⟩)]
            · simp only [if_neg hk0])
          have hcs : ¬ 0 < k ∨ ((namS r).2 == 0) = false := by
            by_cases hk0 : 0 < k
            · exact .inr (by simpa using fun e => h0 ⟨hk0, e⟩)
            · exact .inl hk0
          clear h0
          generalize (namS r).2 = ne at *
          rcases hcs with hcs | hcs
          all_goals (
            go_wp2_with (go_at_call 86; (with_reducible refine (kn _).mono ?_); rintro e w3 ⟨rfl, b3⟩; have HQ3 := Lib.hid (qj_below HQ1.out b3); clear b3 j0 j1; have j0 := blk_cell HQ3.out.jour 0 rfl; have j1 := blk_cell HQ3.out.jour 1 rfl; have j2 := blk_cell HQ3.out.jour 2 rfl; have j3 := blk_cell HQ3.out.jour 3 rfl; have j4 := blk_frozen HQ3.out.jour 3; have z0 := blk_cell HQ3.out.res 0 rfl; have z1 := blk_cell HQ3.out.res 1 rfl; have z2 := blk_cell HQ3.out.res 2 rfl; have z3 := blk_cell HQ3.out.res 3 rfl; have f0 := blk_frozen HQ3.out.res 0; have f1 := blk_frozen HQ3.out.res 1; have f2 := blk_frozen HQ3.out.res 2; have f3 := blk_frozen HQ3.out.res 3)
            all_goals (
              obtain ⟨e2, e3, e4⟩ := qread_end (k := k) (p := p) ⟨#[]⟩ HN.out HQ3.out.below HQ3.out.res HQ3.out.own
              refine bodyPost_ret (results_cell_row rfl _ _ N _ _ _ _ rfl e2 Tryz.underlying75 rfl (by kernel_rfl)) rfl ?_
              exact ⟨e3, a, cap, by rw [HRE.out]; rfl, by rw [HRE.out]; exact e4⟩))
      obtain ⟨⟨f, hfx, hrf⟩, hk1, hL1⟩ := hP.out
      obtain ⟨f', hf', hstep⟩ := rdG_step (j := ⟨k, p, L⟩) hf hbr hrf
      rw [hstep] at hfx
      have HST := Lib.hid (show (∃ f, rdG f g.t ⟨k + 1, g.p, addR L g.L⟩ = X ∧ g.t.length < f) from ⟨f', hfx, hf'⟩)
      have HGL2 := Lib.hid (show g.t.length = r.length - (32 + 520 * g.L.length) by rw [hgt, List.length_drop])
      have HGT := Lib.hid (show g.t = s.drop (at_ + (32 + 520 * g.L.length)) by rw [hgt, HDD.out])
      have HADL := Lib.hid (addR_len g.L L)
      have HOK := Lib.hid hgok
      have HGLEN := Lib.hid hglen
      have hkk : k ≤ 1048575 := by omega
      have hLL : L.length + g.L.length ≤ 1048576 := by omega
      have hbr' : k = 0 ∨ g.p = p := by
        by_cases h : k = 0
        · exact .inl h
        · refine .inr ?_
          by_cases h2 : g.p = p
          · exact h2
          · exact absurd ⟨by omega, h2⟩ hbr
      have hsz : at_ + (32 + 520 * g.L.length) ≤ S.size := by have := HRL.out; omega
      clear hfx hrf hf' hstep hgt hgok hf hlt hbr hP
      obtain ⟨k', hk'⟩ : ∃ k' : Nat, k' = k + 1 := ⟨_, rfl⟩
      have HKE := Lib.hid hk'
      have wk : (k : Int) + 1 = (k' : Int) := by omega
      rw [← hk'] at HST
      obtain ⟨len, hlen⟩ : ∃ len, len = g.L.length := ⟨_, rfl⟩
      have HLEN := Lib.hid hlen
      rw [← hlen] at hgl hLL hsz k1 hglen
      obtain ⟨gp, hgp⟩ : ∃ gp, gp = g.p := ⟨_, rfl⟩
      rw [← hgp] at HST hbr' gp0 gp1 k1
      obtain ⟨nn, hnn⟩ : ∃ nn : Nat, nn = 32 + 520 * len := ⟨_, rfl⟩
      have HNN := Lib.hid hnn
      rw [← hnn] at k1 hsz
      have hnn2 : nn ≤ 1048576 := by omega
      have hnn3 : 32 ≤ nn := by omega
      have hc : ¬ 0 < k ∨ (0 < k ∧ (gp != p) = false) := by
        by_cases h0 : 0 < k
        · exact .inr ⟨h0, by rcases hbr' with h | h; omega; simp [h]⟩
        · exact .inl h0
      clear hbr' hk' hlen hgp hnn hglen
      obtain ⟨i1, hi1, hz1, hs1, hb1⟩ := info_parts infoQR
      have HM0 := Lib.hid (show L = addR L (g.L.take 0) by rw [List.take_zero]; rfl)
      rcases hc with hc | ⟨hc, hc2⟩
      all_goals (
        go_wp2_with (go_at_call 84; (with_reducible refine (k1 _).mono ?_); rintro e w1 ⟨a1, cap1, hx, hz, rfl, b1, hrec, hbs⟩; have HQ1 := Lib.hid (qj_alloc (qj_below hQ.out b1) (.cells #[.int .i64 hx, .int .i64 gp, .int .i64 hz] 137)); have HREC := Lib.hid (recs_alloc hrec (.cells #[.int .i64 hx, .int .i64 gp, .int .i64 hz] 137)); have HBS := Lib.hid hbs; have hw1s := b1.size; clear b1 j0 j1 hrec hbs; have j0 := blk_cell HQ1.out.jour 0 rfl; have j1 := blk_cell HQ1.out.jour 1 rfl; have f0 := blk_frozen HQ1.out.jour 0; have f1 := blk_frozen HQ1.out.jour 1)
        have HQ2 := Lib.hid (qj_p (qj_k HQ1.out k') gp)
        obtain ⟨P, hPd⟩ : ∃ P : Nat → Prop, P = fun j => ∃ off, a1 = some ⟨j, off, none⟩ := ⟨_, rfl⟩
        have HV := Lib.hid (show ∀ j, v.ownBlock = some j → ¬ P j by
          intro j e h
          rw [hPd] at h
          obtain ⟨off, h⟩ := h
          have h1 := (HBS.out j off h).1
          have h2 := (hQ.out.own.lt j e).2
          omega)
        have hPl : ∀ j, P j → j < w1.heap.size ∧ N + 1 < j := by
          intro j h
          rw [hPd] at h
          obtain ⟨off, h⟩ := h
          have h1 := HBS.out j off h
          have h2 := qj_big hQ.out
          omega
        have HREC2 := Lib.hid (show Recs (((w1.alloc (.cells #[.int .i64 hx, .int .i64 gp, .int .i64 hz] 137)).setCell ⟨N + 1, 0, none⟩ (.int .i64 k')).setCell ⟨N + 1, 1, none⟩ (.int .i64 gp)) a1 g.L by
          intro j hj
          obtain ⟨b, off, ha, hlt, h1, h2⟩ := HREC.out j hj
          have hb := (hPl b (by rw [hPd]; exact ⟨off, ha⟩)).2
          have hk := (Below.heap_setCell ((w1.alloc (.cells #[.int .i64 hx, .int .i64 gp, .int .i64 hz] 137)).setCell ⟨N + 1, 0, none⟩ (.int .i64 k')) ⟨N + 1, 1, none⟩ (.int .i64 gp) b (by show b ≠ N + 1; omega)).trans (Below.heap_setCell (w1.alloc (.cells #[.int .i64 hx, .int .i64 gp, .int .i64 hz] 137)) ⟨N + 1, 0, none⟩ (.int .i64 k') b (by show b ≠ N + 1; omega))
          exact ⟨b, off, ha, by simpa [World.setCell] using hlt, (World.cell?_of_block hk).trans h1, (World.cell?_of_block hk).trans h2⟩)
        have hPa : ∀ b off, a1 = some ⟨b, off, none⟩ → P b := fun b off e => by rw [hPd]; exact ⟨off, e⟩
        have HPA := Lib.hid hPa
        have HPL := Lib.hid (show ∀ j, P j → j < (((w1.alloc (.cells #[.int .i64 hx, .int .i64 gp, .int .i64 hz] 137)).setCell ⟨N + 1, 0, none⟩ (.int .i64 k')).setCell ⟨N + 1, 1, none⟩ (.int .i64 gp)).heap.size ∧ N + 1 < j from fun j h => by have := hPl j h; simp [World.setCell]; omega)
        clear HREC hPl hPd hPa HQ1 j0 j1 f0 f1 hQ HBS hw1s
        revert HQ2 HREC2 HPL
        generalize ((w1.alloc (.cells #[.int .i64 hx, .int .i64 gp, .int .i64 hz] 137)).setCell ⟨N + 1, 0, none⟩ (.int .i64 k')).setCell ⟨N + 1, 1, none⟩ (.int .i64 gp) = W2
        intro HQ2 HREC2 HPL
        generalize w1.heap.size = H1
        clear w1
        clear hc
        go_loopw [9] (fun i wr => ∃ (q : Nat) (M : List R11) (v' : Value), q ≤ len ∧ i = .int .i64 q ∧ Hid (M = addR L (g.L.take q)) ∧ Hid (Z11 N w k' gp M v' P W2 wr) ∧ Hid (∀ j, v'.ownBlock = some j → ¬ P j)) (fun i _ => len - (intOf i).toNat)
        case atStart => exact ⟨0, L, v, by omega, rfl, HM0, Lib.hid ⟨HQ2.out, kp_refl _ _⟩, HV⟩
        case round =>
          clear HQ2 HV HM0
          obtain ⟨q, M, v', hq, rfl, hM, hZ, hV⟩ := hrel
          by_cases hlt : q < len
          case neg =>
            obtain rfl : q = len := by omega
            have hMe : M = addR L g.L := by rw [hM.out, addR_all L (by have := HLEN.out; omega)]
            have HPJ := Lib.hid (show PJ X k' gp M (s.drop (at_ + nn)) by
              have h1 := HGL2.out; have h2 := HGLEN.out; have h3 := HKE.out; have h4 := HADL.out; have h5 := HGT.out; have h6 := HNN.out; have h7 := HLEN.out
              rw [h6, h7, ← h5, hMe]
              exact ⟨HST.out, by omega, by omega⟩)
            clear hMe
            go_wp2
            go_roundw
            case rel => exact ⟨at_ + nn, k', gp, M, v', by go_num, by omega, Lib.hid hZ.out.1, HPJ⟩
            case measure => simp [intOf]; omega
          have hlt' : q < g.L.length := by have := HLEN.out; omega
          obtain ⟨b, off, rfl, hbw, c0, c1⟩ := HREC2.out q hlt'
          have hbP := HPA.out b off rfl
          have HMS := Lib.hid (addR_snoc L hlt')
          obtain ⟨x, hx2⟩ : ∃ x, x = g.L[q] := ⟨_, rfl⟩
          rw [← hx2] at c0 c1 HMS
          obtain ⟨m, hm⟩ : ∃ m : Int, m = x.n := ⟨_, rfl⟩
          obtain ⟨d, hd⟩ : ∃ d, d = ba x.d := ⟨_, rfl⟩
          rw [← hm] at c0
          rw [← hd] at c1
          have HX := Lib.hid (show recC x = [.int .i64 m, .string d] by rw [hd, hm]; rfl)
          have HXM := Lib.hid hm
          have HC0 := Lib.hid c0; have HC1 := Lib.hid c1
          have HBP := Lib.hid hbP
          clear hx2 hd hm hlt' hbw c0 c1 hbP
          have hML : M.length ≤ 1048575 := by
            have h1 := addR_len (g.L.take q) L
            rw [← hM.out, List.length_take] at h1
            omega
          obtain ⟨av, cv, rfl, -, -, -⟩ := recs_of_own hZ.out.1.own
          have hlti : (q : Int) < len := by omega
          have kpg := fun (V : World) (h : Recs V av M) => r11page_any (k' : Int) gp av cv M ⟨#[]⟩ m V (by omega) h
          rw [has_page] at kpg
          generalize (pageR M m).1 = ps at kpg
          obtain ⟨hh, hhe⟩ : ∃ hh, hh = hasR M m := ⟨_, rfl⟩
          rw [← hhe] at kpg
          have HHE := Lib.hid hhe
          clear hhe
          have HPL2 := Lib.hid (fun j h => (HPL.out j h).1)
          go_upto_region 10 with (fail)
          go_region_held3 (fun V => V.cell? ⟨N + 1, 0, none⟩ = some (.int .i64 k') ∧ V.cell? ⟨N + 1, 1, none⟩ = some (.int .i64 gp) ∧ V.cell? ⟨N + 1, 2, none⟩ = some (.slice av M.length cv) ∧ V.cell? ⟨N + 1, 3, none⟩ = some (.string ⟨#[]⟩) ∧ V.cell? ⟨b, off + q * 2, none⟩ = some (.int .i64 m) ∧ Z11 N w k' gp M (.slice av M.length cv) P W2 V)
            (first | assumption | exact z11_of hZ.out HBP.out HC0.out | exact z11_of (z11_drew hZ.out) HBP.out HC0.out | exact z11_of (z11_next (And.right (And.right (And.right (And.right (And.right (by assumption)))))) HPL2.out (by assumption)) HBP.out HC0.out)
            ((go_at_call 85; (refine (kpg _ (z11_recs (And.right (And.right (And.right (And.right (And.right (by assumption)))))))).mono ?_); rintro e w2 ⟨rfl, hb⟩))
          rename_i hHeld
          have HZ2 := Lib.hid (And.right (And.right (And.right (And.right (And.right hHeld)))))
          clear hHeld hb hZ kpg
          cases hh
          case true =>
            have HMN := Lib.hid (show M = addR L (g.L.take (q + 1)) by rw [HMS.out, ← hM.out, putR, ← HXM.out, if_pos HHE.out.symm])
            go_wp2
            go_roundw
            case rel => exact ⟨q + 1, M, _, by omega, by go_num, HMN, HZ2, hV⟩
            case measure => simp [intOf]; omega
          case false =>
            have HMN := Lib.hid (show M ++ [x] = addR L (g.L.take (q + 1)) by rw [HMS.out, ← hM.out, putR, ← HXM.out, ← HHE.out]; rfl)
            have hbig := qj_big HZ2.out.1
            have s0 := kp_cell HZ2.out.2 HBP.out HC0.out
            have s1 := kp_cell HZ2.out.2 HBP.out HC1.out
            have j2 := blk_cell HZ2.out.1.jour 2 rfl
            have s3 := kp_cell (kp_alloc HZ2.out.2 HPL2.out (.cells #[.int .i64 m, .string d] 142)) HBP.out HC0.out
            have s4 := kp_cell (kp_alloc HZ2.out.2 HPL2.out (.cells #[.int .i64 m, .string d] 142)) HBP.out HC1.out
            have j3 := blk_cell (blk_alloc HZ2.out.1.jour (.cells #[.int .i64 m, .string d] 142)) 2 rfl
            go_upto_region 12 with (fail)
            go_region_law ((refine step_append_lies _ (by rfl) _ _ _ (by rfl) N 142 i1 _ 2 24 Tryz.underlying73 hi1 hz1 hs1 hb1 rfl (by omega) (.slice av M.length cv) M.length (recsC M) (by rfl) ((qj_alloc (qj_drew HZ2.out.1) _).own) ⟨w2.heap.size, 0, none⟩ 1 1 [.int .i64 m, .string d] (by rfl) (by rfl) (World.news_of_block (cs := #[.int .i64 m, .string d]) (t := 142) (fr := (0, 0)) (heap_alloc_new w2.drew _)) (by simp [Value.oneCell']) (by omega) (by unfold maxLen; omega) (by omega) (by simp; omega) (w2.heap.size + 1) (by simp) ?_; intro g3 cap3 w3 hown3 hgrow3 hat3 hlt3; have y5 := blk_cell (blk_own (blk_alloc (blk_drew HZ2.out.1.jour) _) ((qj_alloc (qj_drew HZ2.out.1) _).own) qjourNeRec hgrow3) 2 rfl; have y6 := blk_frozen (blk_own (blk_alloc (blk_drew HZ2.out.1.jour) _) ((qj_alloc (qj_drew HZ2.out.1) _).own) qjourNeRec hgrow3) 2))
            all_goals (
              have hg : ((w2.drew).alloc (.cells #[.int .i64 m, .string d] 142)).grownBy w3 (Value.slice av M.length cv).ownBlock := hgrow3
              have HQ3 := Lib.hid (qj_app (qj_drew HZ2.out.1) _ hg (L' := M ++ [x]) (v' := .slice (some ⟨g3, 0, none⟩) (M.length + 1) cap3) (by rw [List.length_append, recsC_snoc, HX.out]; exact hown3))
              have HK3 := Lib.hid (kp_set (kp_grown (kp_alloc (show KP P W2 w2.drew from HZ2.out.2) HPL2.out (.cells #[.int .i64 m, .string d] 142)) HPL2.out hg (fun j e => hV.out j e)) HPL2.out (b := N + 1) (fun h => by have := (HPL.out _ h).2; omega) 2 (.slice (some ⟨g3, 0, none⟩) (M.length + 1) cap3))
              have HV3 := Lib.hid (show ∀ j, (Value.slice (some ⟨g3, 0, none⟩) (M.length + 1) cap3).ownBlock = some j → ¬ P j by
                intro j e hp
                obtain rfl : g3 = j := Option.some.inj e
                rcases hat3 with h | h
                · exact hV.out _ h hp
                · have h1 := HPL2.out _ hp
                  have h2 := HZ2.out.2.2
                  omega)
              clear hown3 hgrow3 hat3 hg HZ2 s0 s1 j2 s3 s4 j3 y5 y6 hM hV
              go_wp2
              go_roundw
              case rel => exact ⟨q + 1, M ++ [x], _, by omega, by go_num, HMN, Lib.hid ⟨HQ3.out, HK3.out⟩, HV3⟩
              case measure => simp [intOf]; omega))
end Go.Proofs.YthfebcfdhmihcaaGreatDoor
