/-
  Layer 11, the document's part (annexeref11): the segment at the start of a string, or none: it changes nothing that was there. Condition: at most 2^20 bytes.
-/
import Derived.Test.YtjmciknelkodcaaJrFirst
namespace Go.Proofs.Ytjmciknelkodcaa
open Go.RowKit

theorem qread_is11 {s : ByteArray} (hs : s.size ≤ 9223372036854775807) {k : Int} (h3 : -9223372036854775808 ≤ k) (h4 : k ≤ 9223372036854775807) {n e : Int} {D : ByteArray} (h : rdP s.data.toList k = ⟨n, D.data.toList, e⟩) (w : World) :
    Calls Try.prog 41 #[.string s, .int .i64 k] w fun x w' => x = .returned (.tuple #[.int .i64 n, .string D, .int .i64 e]) ∧ Below w.heap.size w w' := qread_is hs h3 h4 h w
theorem headNeQRec : 60 ≠ 43 := by decide
theorem w64_in {x : Int} (h0 : 0 ≤ x) (h1 : x ≤ 9223372036854775807) : IntKind.i64.wrap x = x := IntWalk.i64_in _ ⟨by omega, by omega⟩
theorem w64_part (k : Nat) (h : (k : Int) ≤ 2000) : IntKind.i64.wrap (32 + IntKind.i64.wrap (520 * (k : Int))) = ((32 + 520 * k : Nat) : Int) := by
  rw [w64_in (x := 520 * (k : Int)) (by omega) (by omega), w64_in (by omega) (by omega)]
  omega
def zHead : Array Value := #[.int .i64 0, .int .i64 0, .int .i64 0]
/-- What part answers: the header is of no matter where there is no segment. -/
def PartQ (l : List UInt8) (w : World) (e : Ending) (w' : World) : Prop :=
  Below w.heap.size w w' ∧ ((fsS l = none ∧ ∃ x y z, e = .returned (.tuple #[.agg #[.int .i64 x, .int .i64 y, .int .i64 z], .slice none 0 0, .int .i64 0, .bool false])) ∨
    ∃ a cap g x z, fsS l = some g ∧ e = .returned (.tuple #[.agg #[.int .i64 x, .int .i64 g.p, .int .i64 z], .slice a g.L.length cap, .int .i64 ((32 + 520 * g.L.length : Nat) : Int), .bool true]) ∧ Recs w' a g.L ∧ ∀ b off, a = some ⟨b, off, none⟩ → w.heap.size ≤ b ∧ b < w'.heap.size)
theorem results_four {P : Program} {fn : Func} {p u q r : Tmp} {ty : TypeId} (h : fn.results = #[.cell p ty, .tmp u, .tmp q, .tmp r]) (tmps : Array Value) (w : World) (g : Nat) (t : TypeId) (cs : Array Value) (d : TypeDesc)
    (hp : tmps.getD p undef = .pointer (some ⟨g, 0, none⟩)) (hg : Blk w g t cs)
    (hu : P.underlying ty = some d) (hd : (match d with | .struct _ | .array _ _ => true | _ => false) = true) (hi : (P.info? ty).map (·.size) = some cs.size) :
    (results fn tmps).run P w = .ok (.tuple #[.agg cs, tmps.getD u undef, tmps.getD q undef, tmps.getD r undef]) w := by
  have hp' : tmps[p]?.getD undef = .pointer (some ⟨g, 0, none⟩) := by simpa using hp
  have hl := run_loadVar_row (P := P) w g t ty cs (0, 0) d hg hu hd hi
  simp [results, h, hp', asAddr, hl]

/-- What part's own cells hold. -/
def P11 (w : World) (H : Nat) (x y z : Value) (u : Value) (k : Nat) (L : List R11) (v : World) : Prop := Blk v H 60 #[x, y, z] ∧ Blk v w.heap.size 60 zHead ∧ v.ownsRow w.heap.size 43 2 u k (recsC L) ∧ Below w.heap.size w v
theorem p11_of {w : World} {H : Nat} {x y z u : Value} {k : Nat} {L : List R11} {v : World} (h : P11 w H x y z u k L v) : v.cell? ⟨H, 0, none⟩ = some x ∧ v.cell? ⟨H, 1, none⟩ = some y ∧ v.cell? ⟨H, 2, none⟩ = some z ∧ P11 w H x y z u k L v := ⟨blk_cell h.1 0 rfl, blk_cell h.1 1 rfl, blk_cell h.1 2 rfl, h⟩
theorem p11_drew {w : World} {H : Nat} {x y z u : Value} {k : Nat} {L : List R11} {v : World} (h : P11 w H x y z u k L v) : P11 w H x y z u k L v.drew := ⟨h.1, h.2.1, h.2.2.1, h.2.2.2.drew⟩
theorem p11_next {w : World} {H : Nat} {x y z u : Value} {k : Nat} {L : List R11} {v v2 : World} (h : P11 w H x y z u k L v) (hb : Below v.heap.size v v2) : P11 w H x y z u k L v2 := ⟨blk_below h.1 hb, blk_below h.2.1 hb, rown_below h.2.2.1 hb, h.2.2.2.trans (hb.mono h.2.2.2.size)⟩

set_option maxHeartbeats 4000000 in
set_option maxRecDepth 100000 in
theorem part_any (l : List UInt8) (hs : l.length ≤ 1048576) (w : World) : Calls Try.prog 22 #[.string (ba l)] w (PartQ l w) := by
  obtain ⟨⟨a, b, c⟩, f, hr⟩ : ∃ (h : H8) (e : Int), rdH l = (h, e) := ⟨_, _, rfl⟩
  have hsz := ba_size l
  have k1 := fun w => rread_is (s := ba l) (by omega) (a := a) (b := b) (c := c) (e := f) hr w
  have HZ := Lib.hid (blk_new w 60 zHead)
  by_cases h0 : f = 0
  case neg =>
    have t1 : (f != 0) = true := by simpa using h0
    have HF := Lib.hid (fsS_none (s := l) (.inl (by rw [hr]; exact h0)))
    clear h0 hr
    go_enter Try.func22, Try.ntmps22
    go_wp2_with (go_at_call 40; (with_reducible refine (k1 _).mono ?_); rintro e w1 ⟨rfl, b1⟩; have HR := Lib.hid (blk_alloc (blk_below HZ.out b1) (.cells #[.int .i64 a, .int .i64 b, .int .i64 c] 60)); have HB := Lib.hid ((blw_new b1).alloc (blw_new b1).size (.cells #[.int .i64 a, .int .i64 b, .int .i64 c] 60)); clear b1; have z0 := blk_cell HR.out 0 rfl; have z1 := blk_cell HR.out 1 rfl; have z2 := blk_cell HR.out 2 rfl; have z3 := blk_frozen HR.out 0; have z4 := blk_frozen HR.out 1; have z5 := blk_frozen HR.out 2)
    refine bodyPost_ret (results_four rfl _ _ w.heap.size _ _ _ rfl (blk_set (blk_set (blk_set HR.out 0 _) 1 _) 2 _) Try.underlying60 rfl (by kernel_rfl)) rfl ?_
    exact ⟨blw_set (blw_set (blw_set HB.out (Nat.le_refl _) 0 _) (Nat.le_refl _) 1 _) (Nat.le_refl _) 2 _, .inl ⟨HF.out, _, _, _, rfl⟩⟩
  subst h0
  have hok := rdH_ok (s := l) (by rw [hr])
  rw [hr] at hok
  obtain ⟨h32, ⟨ha0, ha1⟩, ⟨hb0, hb1⟩, hc0, hc1⟩ := hok
  simp only at ha0 ha1 hb0 hb1 hc0 hc1
  obtain ⟨m, rfl⟩ : ∃ m : Nat, a = m := ⟨a.toNat, by omega⟩
  have HFS := Lib.hid (fun L (hL : sgR c (l.drop 32) m = some L) => show fsS l = some ⟨b, L, l.drop (32 + 520 * m)⟩ by
    have := fsS_some (s := l) (by rw [hr]) (L := L) (by rw [hr]; exact hL)
    rw [this, hr]; rfl)
  have HFN := Lib.hid (fun (hL : sgR c (l.drop 32) m = none) => fsS_none (s := l) (.inr (by rw [hr]; exact hL)))
  obtain ⟨i1, hi1, hz1, hs1, hb2⟩ := info_parts infoQR
  obtain ⟨s, hsl⟩ : ∃ s, s = ba l := ⟨_, rfl⟩
  have HSL := Lib.hid hsl
  rw [← hsl] at hsz k1 ⊢
  obtain ⟨z, hz⟩ : ∃ z : Nat, z = s.size := ⟨_, rfl⟩
  have hz32 : 32 ≤ s.size := by omega
  have hzm : s.size ≤ 1048576 := by omega
  have HSZ := Lib.hid hsz
  obtain ⟨q, hq⟩ : ∃ q : Nat, q = (s.size - 32) / 520 := ⟨_, rfl⟩
  have hqd : ((s.size : Int) - 32).tdiv 520 = (q : Int) := by
    rw [Int.tdiv_eq_ediv_of_nonneg (by omega)]; omega
  have hqb : (q : Int) ≤ 1048576 := by omega
  clear hr hsl hsz hz
  by_cases hqm : q < m
  · have HN := Lib.hid (HFN.out (sgR_short (by rw [List.length_drop]; have := HSZ.out; omega)))
    have t1 : (q : Int) < m := by omega
    clear hq
    go_enter Try.func22, Try.ntmps22
    go_wp2_with (go_at_call 40; (with_reducible refine (k1 _).mono ?_); rintro e w1 ⟨rfl, b1⟩; have HR := Lib.hid (blk_alloc (blk_below HZ.out b1) (.cells #[.int .i64 m, .int .i64 b, .int .i64 c] 60)); have HB := Lib.hid ((blw_new b1).alloc (blw_new b1).size (.cells #[.int .i64 m, .int .i64 b, .int .i64 c] 60)); clear b1; have z0 := blk_cell HR.out 0 rfl; have z1 := blk_cell HR.out 1 rfl; have z2 := blk_cell HR.out 2 rfl; have z3 := blk_frozen HR.out 0; have z4 := blk_frozen HR.out 1; have z5 := blk_frozen HR.out 2)
    refine bodyPost_ret (results_four rfl _ _ w.heap.size _ _ _ rfl (blk_set (blk_set (blk_set HR.out 0 _) 1 _) 2 _) Try.underlying60 rfl (by kernel_rfl)) rfl ?_
    exact ⟨blw_set (blw_set (blw_set HB.out (Nat.le_refl _) 0 _) (Nat.le_refl _) 1 _) (Nat.le_refl _) 2 _, .inl ⟨HN.out, _, _, _, rfl⟩⟩
  have t1 : ¬ (q : Int) < m := by omega
  have hml : 32 + 520 * m ≤ s.size := by omega
  clear hq
  go_enter Try.func22, Try.ntmps22
  go_wp2_with (go_at_call 40; (with_reducible refine (k1 _).mono ?_); rintro e w1 ⟨rfl, b1⟩)
  have HR1 := Lib.hid (blk_alloc (blk_below HZ.out b1) (.cells #[.int .i64 m, .int .i64 b, .int .i64 c] 60))
  have HH1 := Lib.hid (blk_new w1 60 #[.int .i64 m, .int .i64 b, .int .i64 c])
  have HB1 := Lib.hid ((blw_new b1).alloc (blw_new b1).size (.cells #[.int .i64 m, .int .i64 b, .int .i64 c] 60))
  have hw1 : w.heap.size < w1.heap.size := Nat.lt_of_lt_of_le (by simp) b1.size
  clear b1 HZ k1 hqd hqb hqm t1
  revert HR1 HH1 HB1 hw1
  generalize w1.alloc (.cells #[.int .i64 m, .int .i64 b, .int .i64 c] 60) = W1
  generalize w1.heap.size = H
  intro HR1 HH1 HB1 hw1
  clear w1
  go_loopw [8, 9] (fun v i wr => ∃ (k : Nat) (L : List R11), k ≤ m ∧ i = .int .i64 k ∧ Hid (sgR c (l.drop 32) k = some L) ∧ Hid (wr.ownsRow w.heap.size 43 2 v k (recsC L)) ∧ Hid (Blk wr H 60 #[.int .i64 m, .int .i64 b, .int .i64 c]) ∧ Hid (Blk wr w.heap.size 60 zHead) ∧ Hid (Below w.heap.size w wr)) (fun _ i _ => m - (intOf i).toNat)
  case atStart => exact ⟨0, [], by omega, rfl, Lib.hid rfl, Lib.hid (World.ownsRow_nil _ _ _ _), HH1, HR1, HB1⟩
  case round =>
    clear HR1 HH1 HB1
    obtain ⟨k, L, hk, rfl, hsg, hown, hH, hR, hB⟩ := hrel
    have e0 := blk_cell hH.out 0 rfl
    have e1 := blk_cell hH.out 1 rfl
    have e2 := blk_cell hH.out 2 rfl
    have z0 := blk_cell hR.out 0 rfl
    have z1 := blk_cell hR.out 1 rfl
    have z2 := blk_cell hR.out 2 rfl
    have z3 := blk_frozen hR.out 0
    have z4 := blk_frozen hR.out 1
    have z5 := blk_frozen hR.out 2
    by_cases hlt : k < m
    case neg =>
      obtain rfl : k = m := by omega
      obtain ⟨a1, cap1, rfl, hln, -, -⟩ := recs_of_own hown.out
      go_upto_region 12 with (fail)
      have hHR : H ≠ w.heap.size := by omega
      go_region_held3 (fun v => v.cell? ⟨H, 0, none⟩ = some (.int .i64 k) ∧ v.cell? ⟨H, 1, none⟩ = some (.int .i64 b) ∧ v.cell? ⟨H, 2, none⟩ = some (.int .i64 c) ∧ Blk v H 60 #[.int .i64 k, .int .i64 b, .int .i64 c])
        (first | assumption | exact blk3_of hH.out | exact blk3_of (blk_drew hH.out) | exact blk3_of (blk_other (blk_other (blk_other (blk_drew hH.out) hHR 0 _) hHR 1 _) hHR 2 _))
        (fail)
      rename_i hHeld
      clear hHeld
      rw [w64_part k ha1]
      have HR2 := Lib.hid (blk_drew (blk_set (blk_set (blk_set hR.out 0 (.int .i64 k)) 1 (.int .i64 b)) 2 (.int .i64 c)))
      have o1 := own_set hown.out hR.out headNeQRec 0 (.int .i64 k)
      have o2 := own_set o1 (blk_set hR.out 0 (.int .i64 k)) headNeQRec 1 (.int .i64 b)
      have o3 := own_set o2 (blk_set (blk_set hR.out 0 (.int .i64 k)) 1 (.int .i64 b)) headNeQRec 2 (.int .i64 c)
      obtain ⟨a2, cap2, e, hln2, hrec, hbs⟩ := recs_of_own o3
      cases e
      have HREC := Lib.hid hrec
      have HBS := Lib.hid hbs
      have HBF := Lib.hid (blw_set (blw_set (blw_set hB.out (Nat.le_refl _) 0 (.int .i64 k)) (Nat.le_refl _) 1 (.int .i64 b)) (Nat.le_refl _) 2 (.int .i64 c)).drew
      clear hrec hbs o1 o2 o3 hR hown
      go_wp2
      refine bodyPost_ret (results_four rfl _ _ w.heap.size _ _ _ rfl HR2.out Try.underlying60 rfl (by kernel_rfl)) rfl ?_
      subst hln
      exact ⟨HBF.out, .inr ⟨a1, cap1, _, _, _, HFS.out L hsg.out, rfl, recs_drew HREC.out, HBS.out⟩⟩
    obtain ⟨n, D, e, hrd⟩ : ∃ (n : Int) (D : ByteArray) (e : Int), rdP (l.drop (32 + 520 * k)) c = ⟨n, D.data.toList, e⟩ := ⟨_, ⟨(rdP (l.drop (32 + 520 * k)) c).d.toArray⟩, _, rfl⟩
    have k2 := fun w => qread_is11 (s := ba (l.drop (32 + 520 * k))) (by rw [ba_size, List.length_drop]; omega) (k := c) (by omega) (by omega) (n := n) (e := e) (D := D) hrd w
    have HEX := Lib.hid (show s.extract (32 + 520 * k) s.size = ba (l.drop (32 + 520 * k)) by rw [HSL.out, sext_drop])
    rw [← HEX.out] at k2
    have hks : 32 + 520 * k ≤ s.size := by omega
    have hki : (32 : Int) + 520 * (k : Int) ≤ s.size := by omega
    have HP := Lib.hid (show P11 w H (.int .i64 m) (.int .i64 b) (.int .i64 c) u8 k L wr from ⟨hH.out, hR.out, hown.out, hB.out⟩)
    have hk20 : (k : Int) ≤ 2000 := by omega
    have hkm : (k : Int) < m := by omega
    obtain ⟨at_, hat⟩ : ∃ at_ : Nat, at_ = 32 + 520 * k := ⟨_, rfl⟩
    obtain ⟨x5, hx5⟩ : ∃ x5 : Int, x5 = 520 * (k : Int) := ⟨_, rfl⟩
    have hw5 : IntKind.i64.wrap (520 * (k : Int)) = x5 := by rw [hx5]; exact w64_in (by omega) (by omega)
    have hw6 : IntKind.i64.wrap (32 + x5) = (at_ : Int) := by rw [w64_in (by omega) (by omega)]; omega
    have hai : (32 : Int) + 520 * (k : Int) = (at_ : Int) := by omega
    rw [← hat] at k2 hks
    have hai2 : (at_ : Int) ≤ s.size := by omega
    have HAT := Lib.hid hat
    clear hat hown hH hR hB z0 z1 z2 z3 z4 z5 hx5 hai hki
    go_upto_region 8 with (fail)
    go_region_held3 (fun v => v.cell? ⟨H, 0, none⟩ = some (.int .i64 m) ∧ v.cell? ⟨H, 1, none⟩ = some (.int .i64 b) ∧ v.cell? ⟨H, 2, none⟩ = some (.int .i64 c) ∧ P11 w H (.int .i64 m) (.int .i64 b) (.int .i64 c) u8 k L v)
      (first | assumption | exact p11_of HP.out | exact p11_of (p11_drew HP.out) | exact p11_of (p11_next (And.right (And.right (And.right (by assumption)))) (by assumption)))
      ((go_at_call 41; (with_reducible refine (k2 _).mono ?_); rintro e w2 ⟨rfl, hb⟩))
    rename_i hHeld
    have HP2 := Lib.hid (And.right (And.right (And.right hHeld)))
    have hb2s := hb.size
    clear hHeld hb HP k2 hw5 hw6 hai2 hks e0 e1 e2
    have e0 := blk_cell HP2.out.1 0 rfl
    have e1 := blk_cell HP2.out.1 1 rfl
    have e2 := blk_cell HP2.out.1 2 rfl
    have z0 := blk_cell HP2.out.2.1 0 rfl
    have z1 := blk_cell HP2.out.2.1 1 rfl
    have z2 := blk_cell HP2.out.2.1 2 rfl
    have z3 := blk_frozen HP2.out.2.1 0
    have z4 := blk_frozen HP2.out.2.1 1
    have z5 := blk_frozen HP2.out.2.1 2
    by_cases h0 : e = 0
    case neg =>
      have HN := Lib.hid (HFN.out (sgR_bad hlt (by rw [List.drop_drop, hrd]; exact h0)))
      have t1 : (e != 0) = true := by simpa using h0
      clear h0 hrd HEX
      go_wp2
      refine bodyPost_ret (results_four rfl _ _ w.heap.size _ _ _ rfl (blk_set (blk_set (blk_set HP2.out.2.1 0 _) 1 _) 2 _) Try.underlying60 rfl (by kernel_rfl)) rfl ?_
      exact ⟨blw_set (blw_set (blw_set HP2.out.2.2.2 (Nat.le_refl _) 0 _) (Nat.le_refl _) 1 _) (Nat.le_refl _) 2 _, .inl ⟨HN.out, _, _, _, rfl⟩⟩
    subst h0
    have HSG := Lib.hid (show sgR c (l.drop 32) (k + 1) = some (L ++ [⟨n, D.data.toList⟩]) by
      have := sgR_next hsg.out (by rw [List.drop_drop, hrd])
      rw [List.drop_drop, hrd] at this
      exact this)
    have hwB := HP2.out.2.2.2.size
    clear hrd HEX z0 z1 z2 z3 z4 z5 e0 e1 e2
    go_wp2_with (at_builtin; refine wpList_append_lies _ rfl _ _ _ rfl w.heap.size 43 i1 _ 2 24 Try.underlying27 hi1 hz1 hs1 hb2 rfl (by omega) u8 k (recsC L) rfl (HP2.out.2.2.1.alloc _) ⟨w2.heap.size, 0, none⟩ 1 1 (recC ⟨n, D.data.toList⟩) rfl rfl (rnews w2 ⟨n, D.data.toList⟩ _) (rone ⟨n, D.data.toList⟩) (by omega) (by unfold maxLen; omega) (by omega) (by simp only [World.size_alloc]; omega) (w2.heap.size + 1) (by simp) ?_; intro g3 cap3 w3 hown3 hgrow3 hat3 hlt3)
    have HO3 := Lib.hid (show w3.ownsRow w.heap.size 43 2 (.slice (some ⟨g3, 0, none⟩) (k + 1) cap3) (k + 1) (recsC (L ++ [⟨n, D.data.toList⟩])) by rw [recsC_snoc]; exact hown3)
    have HB3 := Lib.hid (rbelow_own (HP2.out.2.2.2.alloc hwB _) (HP2.out.2.2.1.alloc _) hgrow3)
    have HH3 := Lib.hid (blk_own (blk_alloc HP2.out.1 _) (HP2.out.2.2.1.alloc _) headNeQRec hgrow3)
    have HR3 := Lib.hid (blk_own (blk_alloc HP2.out.2.1 _) (HP2.out.2.2.1.alloc _) headNeQRec hgrow3)
    clear hown3 hgrow3 hat3 HP2 hsg
    go_roundw
    case rel => exact ⟨k + 1, _, by omega, by go_num, HSG, HO3, HH3, HR3, HB3⟩
    case measure => simp [intOf]; omega
end Go.Proofs.Ytjmciknelkodcaa
